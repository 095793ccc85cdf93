package drain_test

import (
	"strings"
	"testing"

	"warder/api"
	"warder/drain"
	"warder/machine"
	"warder/request"
)

func config() api.Config {
	return api.Config{Creds: []api.Cred{{UID: 1}, {UID: 2, Proc: 1}, {UID: 1, Proc: 2}}, Keys: 20, Nodes: 90, Extents: 90, Count: 20, Bytes: 2000}
}

func ask(t *testing.T, task int, draw uint64, c api.Call) api.Request {
	t.Helper()
	b, e := request.Bytes(c)
	if e != api.OK {
		t.Fatal(c)
	}
	return api.Request{Task: task, Draw: draw, Bytes: string(b)}
}

func get() api.Call { return api.Call{Op: api.OpGet, Key: api.SpecSession, Create: true} }

func add(d, p string) api.Call {
	return api.Call{Op: api.OpAdd, Ring: api.SpecSession, Index: api.Index{Type: api.TypeUser, Desc: d}, Payload: p}
}

func steps(m *machine.Machine, task, n int) {
	for range n {
		m.Do(api.Act{Kind: api.ActStep, Task: task})
	}
}

func build(t *testing.T, l ...api.Request) *machine.Machine {
	t.Helper()
	m, e := machine.New(config(), l...)
	if e != api.OK {
		t.Fatal(e)
	}
	return m
}

func TestBoundTurnDrain(t *testing.T) { // P30.1
	c := api.Config{Creds: []api.Cred{{}}, Keys: 1, Nodes: 1, Extents: 1}
	if n := drain.Bound(c); n != 14216 {
		t.Error(n)
	}
	c = api.Config{Creds: make([]api.Cred, 3), Keys: 10, Nodes: 7, Extents: 9}
	if n := drain.Bound(c); n != 20*9*(5*(100+800+7)+300)+4*(100+10+7+9) {
		t.Error(n)
	}
	if c.Keys = 0; drain.Bound(c) != 0 || drain.Bound(api.Config{}) != 0 {
		t.Error("one that may not be")
	}
	m := build(t, ask(t, 2, 0, get()), ask(t, 0, 1, get()), ask(t, 0, 2, add("a", "x")), ask(t, 1, 3, get()))
	steps(m, 2, 1)
	steps(m, 0, 4)
	l, e := drain.Turn(m)
	if e != api.OK || len(l) != 3 || l[0].Task != 0 || !l[0].Progress.Done || l[1].Task != 2 || l[1].Progress.Phase != api.PhaseBegin || l[2].Kind != api.ActCollect {
		t.Error(l, e)
	}
	l, e = drain.Turn(m)
	if e != api.OK || len(l) != 2 || l[0].Task != 2 || m.Left(0) != 1 || m.Left(1) != 1 {
		t.Error("none begins another one", l, e)
	}
	for _, most := range []int{-1, 0} {
		if n, e := drain.Drain(m, most); n != 0 || e != api.OK {
			t.Error(n, e)
		}
	}
	if n, e := drain.Drain(m, 1); n != 1 || e != api.OK || drain.Drained(m) {
		t.Error(n, e)
	}
	if n, e := drain.Drain(m, 999); n != 1 || e != api.OK || !drain.Drained(m) {
		t.Error(n, e)
	}
	if n, e := drain.Drain(m, 999); n != 0 || e != api.OK {
		t.Error(n, e)
	}
	for _, m := range []*machine.Machine{nil, {}} {
		l, e := drain.Turn(m)
		n, f := drain.Drain(m, 9)
		if l != nil || n != 0 || e != api.ErrNil || f != api.ErrNil {
			t.Error("nil")
		}
	}
}

func TestOfDrainedFull(t *testing.T) { // P30.2
	m := build(t, ask(t, 0, 0, get()), ask(t, 0, 1, add("a", strings.Repeat("x", 20))), ask(t, 0, 2, add("b", "x")), ask(t, 0, 0, api.Call{Op: api.OpInvalidate, Key: 2}), ask(t, 1, 5, get()))
	is := func(l api.Left) {
		t.Helper()
		if drain.Of(m) != l || drain.Drained(m) != (l == api.Left{}) {
			t.Error(drain.Of(m))
		}
	}
	is(api.Left{})
	steps(m, 1, 1)
	is(api.Left{Calls: 1})
	steps(m, 1, 3)
	is(api.Left{Calls: 1, Inside: 1, Slots: 1})
	steps(m, 1, 1)
	is(api.Left{})
	steps(m, 0, 5+5)
	is(api.Left{Calls: 1, Inside: 1, Held: 1})
	steps(m, 0, 3)
	is(api.Left{Calls: 1, Inside: 1, Held: 1, Slots: 3})
	steps(m, 0, 2)
	is(api.Left{})
	for m.Left(0) > 0 || !m.Calm() {
		steps(m, 0, 1)
	}
	is(api.Left{Callbacks: 1, Links: 1, Slots: 3})
	drain.Turn(m)
	is(api.Left{Links: 1, Slots: 1})
	drain.Turn(m)
	is(api.Left{Callbacks: 1, Slots: 2})
	drain.Turn(m)
	is(api.Left{})
	for _, m := range []*machine.Machine{nil, {}} {
		if drain.Of(m) != (api.Left{}) || !drain.Drained(m) || drain.Full(m) {
			t.Error("nil")
		}
	}
	c := config()
	c.Keys = 1
	m, _ = machine.New(c, ask(t, 0, 0, get()), ask(t, 0, 1, add("a", "x")))
	steps(m, 0, 5)
	if drain.Full(m) {
		t.Error("not yet")
	}
	if steps(m, 0, 20); !drain.Full(m) {
		t.Error(m.History())
	}
}

func TestComesToAnEnd(t *testing.T) { // P30.3
	var l []api.Request
	for i := range 60 {
		c := []api.Call{get(), add("a", "x"), add("b", "yyyyyyyyyyyyyyyyyyyyyyy"), {Op: api.OpRead, Key: api.SpecSession}, {Op: api.OpUpdate, Key: 3, Payload: "u"}, {Op: api.OpInvalidate, Key: 4}, {Op: api.OpJoin, Index: api.Index{Type: 4, Desc: "j"}}}[i*i%7]
		l = append(l, ask(t, i%3, uint64(i%6), c))
	}
	for seed := range 60 {
		m := build(t, l...)
		x := seed*7919 + 1
		for range 200 + seed {
			x = x*1103515245 + 12345
			m.Do(api.Act{Kind: api.ActStep, Task: x >> 16 & 0xff % 3})
			if x>>24&7 == 0 {
				m.Do(api.Act{Kind: api.ActTick})
			}
		}
		n, e := drain.Drain(m, drain.Bound(config()))
		if e != api.OK || !drain.Full(m) && !drain.Drained(m) || n > 2000 {
			t.Fatal(seed, n, drain.Of(m))
		}
		for range 3 {
			if drain.Turn(m); !drain.Drained(m) {
				t.Fatal("what is drained stays so")
			}
		}
	}
}
