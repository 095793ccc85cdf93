package flow_test

import (
	"slices"
	"strings"
	"testing"

	"warder/api"
	"warder/flow"
	"warder/request"
)

func config() api.Config {
	return api.Config{Creds: []api.Cred{{UID: 1}, {UID: 2, Proc: 1}, {UID: 3, Proc: 2}, {UID: 1, Proc: 3}}, Keys: 20, Nodes: 90, Extents: 90, Count: 20, Bytes: 2000}
}

type ask struct {
	task int
	c    api.Call
}

func script(t *testing.T, l ...ask) api.Script {
	t.Helper()
	s := api.Script{Config: config()}
	for i, a := range l {
		b, e := request.Bytes(a.c)
		if e != api.OK {
			t.Fatal(a)
		}
		s.Requests = append(s.Requests, api.Request{Task: a.task, Draw: uint64(i), Bytes: string(b)})
		for range 60 {
			s.Acts = append(s.Acts, api.Act{Kind: api.ActStep, Task: a.task})
		}
	}
	return s
}

func get() api.Call { return api.Call{Op: api.OpGet, Key: api.SpecSession, Create: true} }

func add(d, p string) api.Call {
	return api.Call{Op: api.OpAdd, Ring: api.SpecSession, Index: api.Index{Type: api.TypeUser, Desc: d}, Payload: p}
}

func read(s api.Serial) api.Call { return api.Call{Op: api.OpRead, Key: s} }

func mask(s api.Serial, p api.Perm) api.Call { return api.Call{Op: api.OpSetPerm, Key: s, Perm: p} }

func TestTwinsDiffer(t *testing.T) { // P28.1
	a := script(t, ask{0, get()}, ask{0, add("a", "xx")}, ask{1, get()}, ask{1, add("b", "yy")})
	b := script(t, ask{0, get()}, ask{0, add("a", "zz")}, ask{1, get()}, ask{1, add("b", "yy")})
	if !flow.Twins(a, b, 1) || flow.Twins(a, b, 2) || flow.Twins(a, b, 9) || !flow.Twins(a, a, 9) || !slices.Equal(flow.Differ(a, b), []int{1}) || len(flow.Differ(a, a)) != 0 {
		t.Error("twins")
	}
	for i, f := range []func(s *api.Script){
		func(s *api.Script) { s.Config.Bytes++ }, func(s *api.Script) { s.Config.Creds = slices.Clone(s.Config.Creds[:3]) }, func(s *api.Script) { s.Acts = s.Acts[1:] }, func(s *api.Script) { s.Requests = s.Requests[:3] },
		func(s *api.Script) { s.Requests[0].Draw++ }, func(s *api.Script) { s.Requests[1].Task = 3 }, func(s *api.Script) { s.Requests[1] = script(t, ask{0, get()}, ask{0, add("a", "zzz")}).Requests[1] },
		func(s *api.Script) { s.Requests[1] = script(t, ask{0, get()}, ask{0, add("c", "zz")}).Requests[1] }, func(s *api.Script) { s.Requests[1].Bytes += "?" }, func(s *api.Script) {
			s.Requests[3] = script(t, ask{1, get()}, ask{1, get()}, ask{1, get()}, ask{1, add("b", "zz")}).Requests[3]
		},
	} {
		c := b
		c.Requests = slices.Clone(b.Requests)
		if f(&c); flow.Twins(a, c, 1) || flow.Twins(c, a, 1) {
			t.Error(i)
		}
	}
	long := b
	long.Requests = append(slices.Clone(b.Requests), api.Request{}, api.Request{})
	long.Requests[0].Draw++
	if l := flow.Differ(a, long); !slices.Equal(l, []int{0, 1, 4, 5}) || !slices.Equal(flow.Differ(long, a), l) {
		t.Error(l)
	}
	c, d := a, b
	c.Requests, d.Requests = slices.Clone(a.Requests), slices.Clone(a.Requests)
	c.Requests[1].Bytes, d.Requests[1].Bytes = "?a", "?b"
	if flow.Twins(c, d, 1) {
		t.Error("none's bytes have no payload")
	}
}

func TestReaders(t *testing.T) { // P28.2
	readers := func(s api.Script, want []int, at ...int) {
		t.Helper()
		if l, e := flow.Readers(s, at...); e != api.OK || !slices.Equal(l, want) {
			t.Error(l, e)
		}
	}
	readers(script(t, ask{0, get()}, ask{0, add("a", "x")}, ask{1, read(2)}), nil, 1)
	open := script(t, ask{0, get()}, ask{0, add("a", "x")}, ask{0, mask(2, 0x3f3f3f3f)})
	readers(open, []int{1, 2}, 1)
	readers(open, nil, 0, 2)
	readers(open, nil)
	open.Acts = open.Acts[:14]
	readers(open, nil, 1)
	update := api.Call{Op: api.OpUpdate, Key: 2, Payload: "y"}
	l := []ask{{0, get()}, {0, add("a", "x")}, {0, update}, {0, mask(2, 0x3f3f3f3f)}}
	readers(script(t, l...), nil, 1)
	readers(script(t, l...), []int{1, 2}, 2)
	l[2].c = api.Call{Op: api.OpRevoke, Key: 2}
	readers(script(t, l...), nil, 1)
	l = []ask{{0, get()}, {0, add("a", "x")}, {0, mask(2, 0x3f3f0000)}, {0, add("a", "y")}, {0, mask(2, 0x3f023f02)}}
	readers(script(t, l...), []int{1, 2}, 1, 3)
	readers(script(t, l...), nil, 1)
	l = []ask{{0, get()}, {0, add("a", "x")}, {0, mask(2, 0x3f3f3f3f)}, {1, api.Call{Op: api.OpUpdate, Key: 2, Payload: "y"}}}
	readers(script(t, l...), []int{0, 2, 3}, 3)
	late := script(t, ask{0, get()}, ask{0, add("a", "x")})
	for range 3 {
		late.Acts = append(late.Acts, api.Act{Kind: api.ActTick})
	}
	readers(late, nil, 1)
	for _, at := range []int{-1, 2} {
		if l, e := flow.Readers(late, 0, at); l != nil || e != api.ErrArg {
			t.Error(l, e)
		}
	}
	late.Config.Keys = 0
	if l, e := flow.Readers(late, 1); l != nil || e != api.ErrArg {
		t.Error(l, e)
	}
	late = script(t)
	late.Acts = make([]api.Act, api.MaxScript+1)
	if _, e := flow.Readers(late); e != api.ErrLong {
		t.Error(e)
	}
}

func TestReadersInTime(t *testing.T) { // P28.2
	timeout := api.Call{Op: api.OpTimeout, Key: 1, Time: 1}
	s := script(t, ask{0, get()}, ask{0, add("a", "x")}, ask{0, timeout}, ask{1, get()})
	for range 8 {
		s.Acts = append(s.Acts, api.Act{Kind: api.ActTick})
	}
	if l, e := flow.Readers(s, 1); len(l) != 0 || e != api.OK {
		t.Error(l, e)
	}
	later := script(t, ask{0, get()}, ask{0, add("a", "x")}, ask{0, mask(2, 0x3f3f3f3f)})
	grown := append(slices.Clone(later.Acts[:14]), slices.Repeat([]api.Act{{Kind: api.ActTick}}, 5)...)
	later.Acts = append(grown, later.Acts[14:]...)
	if l, e := flow.Readers(later, 1); !slices.Equal(l, []int{1, 2}) || e != api.OK {
		t.Error(l, e)
	}
}

func TestCheck(t *testing.T) { // P28.3
	build := func(p string, more ...ask) api.Script {
		return script(t, append([]ask{{0, get()}, {0, add("a", p)}}, more...)...)
	}
	check := func(want api.Flow, more ...ask) {
		t.Helper()
		x, e := flow.Check(build("one", more...), build("two", more...), 1)
		if e != api.OK || !slices.Equal(x.Readers, want.Readers) || x.Same != want.Same || x.First != want.First {
			t.Error(x, e)
		}
	}
	check(api.Flow{Same: true, First: -1})
	check(api.Flow{Same: true, First: -1}, ask{1, read(2)})
	check(api.Flow{Same: true, First: 2}, ask{0, read(2)})
	check(api.Flow{Same: true, First: 3, Readers: []int{1, 2}}, ask{0, mask(2, 0x3f3f3f3f)}, ask{1, read(2)}, ask{2, read(2)})
	if x, e := flow.Check(build("one"), build("four"), 1); e != api.ErrArg || x.Readers != nil || x.Same || x.First != 0 {
		t.Error(x, e)
	}
	bad := build("one")
	bad.Config.Nodes = 0
	if _, e := flow.Check(bad, bad, 1); e != api.ErrArg {
		t.Error(e)
	}
	bad = build("one")
	bad.Acts = make([]api.Act, api.MaxScript+1)
	if _, e := flow.Check(bad, bad, 1); e != api.ErrLong {
		t.Error(e)
	}
}

func TestNobodyLearns(t *testing.T) { // P28.4
	for seed := 1; seed < 60; seed++ {
		x := seed * 7919
		pick := func(n int) int {
			x = x*1103515245 + 12345
			return (x >> 16 & 0x7fff) % n
		}
		var l, m []ask
		for i := range 30 {
			task := pick(4)
			k := api.Serial(1 + pick(14))
			d := string("abc"[pick(3)])
			c := []api.Call{get(), add(d, "one"), add(d, "one"), read(k), read(k), mask(k, api.Perm(x>>7)&0x3f3f3f3f), {Op: api.OpUpdate, Key: k, Payload: "upd"}, {Op: api.OpLink, Key: k, Ring: api.SpecSession}, {Op: api.OpRequest, Index: api.Index{Type: 1, Desc: d}}, {Op: api.OpRead, Key: api.SpecSession}, {Op: api.OpRevoke, Key: k}, {Op: api.OpUnlink, Key: k, Ring: api.SpecSession}}[pick(12)]
			if i < 4 {
				task, c = i, get()
			}
			l = append(l, ask{task, c})
			if config().Creds[task].UID == 1 {
				c.Payload = strings.ToUpper(c.Payload)
			}
			m = append(m, ask{task, c})
		}
		a, b := script(t, l...), script(t, m...)
		for i := range a.Acts {
			y := api.Act{Kind: api.ActStep, Task: pick(4)}
			if pick(30) == 0 {
				y = api.Act{Kind: api.ActTick}
			} else if pick(5) == 0 {
				y = api.Act{Kind: api.ActCollect}
			}
			a.Acts[i], b.Acts[i] = y, y
		}
		f, e := flow.Check(a, b, 1)
		if e != api.OK || !f.Same {
			t.Fatal(seed, f, e)
		}
	}
}

func TestReadersByTheModel(t *testing.T) { // P28.2
	readers := func(s api.Script, want []int, at ...int) {
		t.Helper()
		if l, e := flow.Readers(s, at...); e != api.OK || !slices.Equal(l, want) {
			t.Error(l, e)
		}
	}
	dead := api.Call{Op: api.OpInvalidate, Key: 2}
	s := script(t, ask{0, get()}, ask{0, add("a", "x")}, ask{0, dead}, ask{0, add("b", "x")}, ask{0, mask(3, 0x3f3f3f3f)})
	s.Requests[3].Draw = 1
	readers(s, []int{1, 2}, 3)
	again := script(t, ask{0, get()}, ask{0, dead}, ask{0, api.Call{Op: api.OpJoin, Index: api.Index{Type: api.TypeRing, Desc: "j"}}}, ask{0, add("b", "x")}, ask{0, mask(9, 0x3f3f3f3f)})
	again.Requests[2].Draw, again.Requests[3].Draw = 0, 8
	readers(again, []int{1, 2}, 3)
	late := script(t, ask{0, get()}, ask{0, add("a", "x")}, ask{0, api.Call{Op: api.OpTimeout, Key: 2, Time: 1}}, ask{0, mask(2, 0x3f3f3f3f)})
	steps := late.Acts
	late.Acts = append(slices.Clone(steps[:5+9+9]), api.Act{Kind: api.ActTick})
	late.Acts = append(late.Acts, steps...)
	readers(late, nil, 1)
	full := script(t, ask{0, get()}, ask{0, add("a", "x")}, ask{0, mask(2, 0x3f3f3f3f)})
	full.Config.Extents = 1
	full.Requests = append(full.Requests, script(t, ask{0, api.Call{Op: api.OpUpdate, Key: 2, Payload: "y"}}).Requests...)
	readers(full, nil, 3)
	readers(full, []int{1, 2}, 1)
	full.Requests = append(full.Requests, api.Request{Bytes: "?"})
	readers(full, nil, 4)
}

func TestTwinsBytes(t *testing.T) { // P28.1
	a, b := script(t, ask{0, add("a", "x")}), script(t, ask{0, add("a", "y")})
	b.Requests[0].Bytes = "?"
	if flow.Twins(a, b, 1) || flow.Twins(b, a, 1) {
		t.Error("a call in both")
	}
	for task, is := range map[int]bool{0: true, 1: false, 3: true, 4: false, -1: false} {
		c, d := script(t, ask{0, add("a", "x")}), script(t, ask{0, add("a", "y")})
		c.Requests[0].Task, d.Requests[0].Task = task, task
		if flow.Twins(c, d, 1) != is {
			t.Error(task)
		}
	}
}
