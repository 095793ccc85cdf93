package linear_test

import (
	"slices"
	"testing"

	"warder/api"
	"warder/linear"
	"warder/machine"
	"warder/request"
)

func config() api.Config {
	return api.Config{Creds: []api.Cred{{UID: 1}, {UID: 1, Proc: 1}}, Keys: 9, Nodes: 90, Extents: 9, Count: 9, Bytes: 900}
}

func asks(t *testing.T, task int, draw uint64, c api.Call) api.Request {
	t.Helper()
	b, e := request.Bytes(c)
	if e != api.OK {
		t.Fatal(c)
	}
	return api.Request{Task: task, Draw: draw, Bytes: string(b)}
}

func get() api.Call { return api.Call{Op: api.OpGet, Key: api.SpecSession, Create: true} }

func none() api.Call { return api.Call{Op: api.OpGet, Key: api.SpecSession} }

func done(r, task, begun, ended int, time uint64, x api.Response) api.Done {
	return api.Done{Request: r, Task: task, Begun: begun, Ended: ended, Time: time, Response: x}
}

func TestAheadMayByEnds(t *testing.T) { // P27.1
	for _, x := range []struct {
		a, b api.Done
		is   bool
	}{{done(0, 0, 0, 3, 0, api.Response{}), done(1, 0, 4, 5, 0, api.Response{}), true}, {done(0, 0, 0, 4, 0, api.Response{}), done(1, 0, 4, 5, 0, api.Response{}), false}, {done(0, 0, 0, -1, 0, api.Response{}), done(1, 0, 4, 5, 0, api.Response{}), false}, {done(0, 0, 0, 3, 0, api.Response{}), done(1, 0, 4, -1, 0, api.Response{}), true}} {
		if linear.Ahead(x.a, x.b) != x.is {
			t.Error(x)
		}
	}
	l := []api.Request{{Task: 0}, {Task: 1}}
	good := done(0, 0, 0, 3, 2, api.Response{})
	for i, x := range []struct {
		h  []api.Done
		is bool
	}{
		{nil, true}, {[]api.Done{good}, true}, {[]api.Done{good, done(1, 1, 0, -1, 0, api.Response{})}, true}, {[]api.Done{good, good}, false}, {[]api.Done{done(2, 0, 0, 3, 0, api.Response{})}, false}, {[]api.Done{done(-1, 0, 0, 3, 0, api.Response{})}, false},
		{[]api.Done{done(1, 0, 0, 3, 0, api.Response{})}, false}, {[]api.Done{done(0, 0, 4, 3, 0, api.Response{})}, false}, {[]api.Done{done(0, 0, 4, -3, 0, api.Response{})}, true}, {[]api.Done{done(0, 0, 3, 3, 0, api.Response{})}, true}, {[]api.Done{done(0, 0, -1, 3, 0, api.Response{})}, false}, {[]api.Done{done(0, 0, -1, -1, 0, api.Response{})}, false},
		{[]api.Done{done(0, 0, 0, 3, api.MaxScript, api.Response{})}, true}, {[]api.Done{done(0, 0, 0, 3, api.MaxScript+1, api.Response{})}, false}, {[]api.Done{done(0, 0, 0, 3, 0, api.Response{Code: 19})}, false}, {[]api.Done{done(0, 0, 0, 3, 0, api.Response{Value: 1 << 31})}, false},
	} {
		if linear.May(l, x.h) != x.is {
			t.Error(i)
		}
	}
	h := []api.Done{done(0, 0, 0, 7, 0, api.Response{}), done(1, 0, 0, -1, 0, api.Response{}), done(2, 0, 0, 3, 0, api.Response{}), done(3, 0, 0, 7, 0, api.Response{}), done(4, 0, 0, 0, 0, api.Response{})}
	if p := linear.ByEnds(h); !slices.Equal(p, []int{4, 2, 0, 3}) {
		t.Error(p)
	}
	if len(linear.ByEnds(nil)) != 0 {
		t.Error("of nothing")
	}
}

func explains(t *testing.T, l []api.Request, h []api.Done, order []int, at int) {
	t.Helper()
	if n, e := linear.Explains(config(), l, h, order); n != at || e != api.OK {
		t.Error(order, n, e)
	}
}

func TestExplains(t *testing.T) { // P27.2
	l := []api.Request{asks(t, 0, 3, get()), asks(t, 0, 0, none()), asks(t, 1, 0, get()), {Task: 1, Bytes: "?"}, asks(t, 1, 0, api.Call{Op: api.OpRead, Key: 9})}
	ok := func(v int) api.Response { return api.Response{Value: v} }
	no := func(e api.Errno) api.Response { return api.Response{Code: e} }
	explains(t, l, nil, nil, -1)
	h := []api.Done{done(0, 0, 0, 5, 0, ok(4)), done(1, 0, 6, 8, 0, ok(4)), done(2, 1, 1, 9, 0, ok(8)), done(3, 1, 2, 2, 0, no(api.ErrArg)), done(4, 1, 3, 30, 0, no(api.ErrNone))}
	explains(t, l, h, []int{3, 0, 1, 2, 4}, -1)
	explains(t, l, h, []int{4, 3, 0, 1, 2}, 0)
	explains(t, l, h, []int{3, 2, 0, 1, 4}, -1)
	explains(t, l, h, []int{3, 1, 0, 2, 4}, 1)
	for _, order := range [][]int{nil, {0, 1, 2, 3}, {0, 1, 2, 3, 3}, {0, 1, 2, 3, 5}, {-1, 0, 1, 2, 3}, {0, 1, 2, 3, 4, 4}} {
		explains(t, l, h, order, 0)
	}
	explains(t, l, []api.Done{done(0, 0, 0, 5, 0, ok(9))}, []int{0}, -1)
	explains(t, l, []api.Done{done(1, 0, 0, 5, 0, ok(9))}, []int{0}, 0)
	explains(t, l, []api.Done{done(0, 0, 0, 5, 0, ok(9)), done(2, 1, 0, 5, 0, ok(9))}, []int{0, 1}, 1)
	explains(t, l, []api.Done{done(0, 0, 0, 5, 2, ok(9)), done(2, 1, 0, 5, 1, ok(8))}, []int{0, 1}, 1)
	explains(t, l, []api.Done{done(0, 0, 0, 5, 2, ok(9)), done(2, 1, 0, 5, 1, ok(8))}, []int{1, 0}, -1)
	explains(t, l, []api.Done{done(0, 0, 0, 5, 0, no(api.ErrFull)), done(1, 0, 0, 6, 0, no(api.ErrNone))}, []int{0, 1}, -1)
	explains(t, l, []api.Done{done(4, 1, 0, 5, 0, no(api.ErrFull))}, []int{0}, 0)
	explains(t, l, []api.Done{done(3, 1, 0, 5, 0, no(api.ErrFull))}, []int{0}, 0)
	explains(t, l, []api.Done{done(3, 1, 0, 5, 0, no(api.ErrNone))}, []int{0}, 0)
	explains(t, l, []api.Done{done(4, 1, 0, -1, 0, ok(9)), done(1, 0, 0, 6, 0, no(api.ErrNone))}, []int{1}, -1)
	bad := config()
	bad.Extents = 0
	if n, e := linear.Explains(bad, l, h, nil); n != 0 || e != api.ErrArg {
		t.Error(n, e)
	}
	if n, e := linear.Explains(config(), l, append(h, h[0]), nil); n != 0 || e != api.ErrArg {
		t.Error(n, e)
	}
}

func TestExplainsAhead(t *testing.T) { // P27.2: where one stands ahead that is still to come, it may not stand there yet
	var l []api.Request
	for range 4 {
		l = append(l, asks(t, 0, 0, none()))
	}
	no := api.Response{Code: api.ErrNone}
	h := []api.Done{done(0, 0, 0, 4, 0, no), done(1, 0, 5, 8, 0, no)}
	explains(t, l, h, []int{0, 1}, -1)
	explains(t, l, h, []int{1, 0}, 0)
	h[1].Begun = 4
	explains(t, l, h, []int{1, 0}, -1)
	h = []api.Done{done(0, 0, 0, 4, 0, no), done(1, 0, 5, 8, 0, no), done(2, 0, 0, 20, 0, no), done(3, 0, 9, 20, 0, no)}
	for _, x := range []struct {
		order []int
		at    int
	}{
		{[]int{0, 1, 2, 3}, -1}, {[]int{2, 0, 1, 3}, -1}, {[]int{0, 1, 3, 2}, -1}, {[]int{0, 2, 3, 1}, 2},
		{[]int{0, 3, 1, 2}, 1}, {[]int{3, 0, 1, 2}, 0}, {[]int{2, 1, 3, 0}, 1}, {[]int{2, 3, 0, 1}, 1}, {[]int{1, 2, 3, 0}, 0},
	} {
		explains(t, l, h, x.order, x.at)
	}
	h[0].Ended = -1
	explains(t, l, h, []int{1, 2, 3}, -1)
	h[1].Response = api.Response{Code: api.ErrAccess}
	explains(t, l, h, []int{2, 1, 3}, 1)
	explains(t, l, h, []int{2, 3, 1}, 1)
}

// ruled is the place at which an order first breaks the rule of who stands ahead, each held against each.
func ruled(h []api.Done, order []int) int {
	for at, i := range order {
		for _, k := range order[at+1:] {
			if linear.Ahead(h[k], h[i]) {
				return at
			}
		}
	}
	return -1
}

func TestOrdersOfAll(t *testing.T) { // P27.2
	no := api.Response{Code: api.ErrNone}
	for seed := range 300 {
		var l []api.Request
		var h []api.Done
		var order []int
		x := uint64(seed)
		next := func(n uint64) int {
			x = x*6364136223846793005 + 1442695040888963407
			return int(x >> 33 % n)
		}
		for i := range 6 {
			b := next(12)
			l = append(l, asks(t, 0, 0, none()))
			h = append(h, done(i, 0, b, b+next(4), 0, no))
			at := next(uint64(i + 1))
			order = slices.Insert(order, at, i)
		}
		explains(t, l, h, order, ruled(h, order))
		var first []int
		for p := range permutations(6) {
			if ruled(h, p) < 0 {
				first = slices.Clone(p)
				break
			}
		}
		if o, is, e := linear.Any(config(), l, h); !is || e != api.OK || !slices.Equal(o, first) {
			t.Fatal(seed, o, first, is, e)
		}
	}
}

// permutations are all orders of n places, by rising places.
func permutations(n int) func(yield func([]int) bool) {
	return func(yield func([]int) bool) {
		var p []int
		var goOn func() bool
		goOn = func() bool {
			if len(p) == n {
				return yield(p)
			}
			for i := range n {
				if slices.Contains(p, i) {
					continue
				}
				p = append(p, i)
				if !goOn() {
					return false
				}
				p = p[:len(p)-1]
			}
			return true
		}
		goOn()
	}
}

func TestAny(t *testing.T) { // P27.2
	l := []api.Request{asks(t, 0, 3, get()), asks(t, 0, 0, none()), asks(t, 1, 0, get())}
	ok := func(v int) api.Response { return api.Response{Value: v} }
	any := func(h []api.Done, want []int, is bool) {
		t.Helper()
		if o, ok, e := linear.Any(config(), l, h); !slices.Equal(o, want) || ok != is || e != api.OK {
			t.Error(o, ok, e)
		}
	}
	any(nil, nil, true)
	any([]api.Done{done(1, 0, 0, 9, 0, ok(4)), done(0, 0, 0, 9, 0, ok(4)), done(2, 1, 0, 9, 0, ok(8))}, []int{1, 0, 2}, true)
	any([]api.Done{done(0, 0, 0, 9, 0, ok(4)), done(1, 0, 0, 9, 0, ok(4)), done(2, 1, 0, 9, 0, ok(8))}, []int{0, 1, 2}, true)
	any([]api.Done{done(0, 0, 5, 9, 0, ok(4)), done(1, 0, 0, 4, 0, ok(4))}, nil, false)
	any([]api.Done{done(0, 0, 5, 9, 0, ok(4)), done(1, 0, 0, 4, 0, api.Response{Code: api.ErrNone})}, []int{1, 0}, true)
	any([]api.Done{done(0, 0, 0, 9, 3, ok(4)), done(2, 1, 0, 9, 1, ok(8)), done(1, 0, 0, -1, 0, ok(4))}, []int{1, 0}, true)
	bad := config()
	bad.Extents = 0
	if o, is, e := linear.Any(bad, l, nil); o != nil || is || e != api.ErrArg {
		t.Error(e)
	}
	var many []api.Request
	var h []api.Done
	for i := range 9 {
		many = append(many, asks(t, 0, 0, none()))
		h = append(h, done(i, 0, 0, i, 0, api.Response{Code: api.ErrNone}))
	}
	if o, is, e := linear.Any(config(), many, h); o != nil || is || e != api.ErrLong {
		t.Error(e)
	}
	if _, _, e := linear.Any(config(), many, append(h, h[0])); e != api.ErrArg {
		t.Error(e)
	}
	h[8].Ended = -1
	if o, is, e := linear.Any(config(), many, h); len(o) != 8 || !is || e != api.OK {
		t.Error(o, is, e)
	}
}

func TestText(t *testing.T) { // P27.3
	for s, d := range map[string]api.Done{
		"3 1 7-9 4 0 -2 00ff7a": done(3, 1, 7, 9, 4, api.Response{Value: -2, Bytes: "\x00\xffz"}),
		"0 0 0-0 0 18 0 ":       done(0, 0, 0, 0, 0, api.Response{Code: api.ErrState}),
		"5 2 8-":                done(5, 2, 8, -1, 0, api.Response{}),
	} {
		if x := linear.Text(d); x != s {
			t.Errorf("%q", x)
		}
	}
}

func TestMachines(t *testing.T) { // P27.4
	var l []api.Request
	for i := range 40 {
		c := []api.Call{get(), {Op: api.OpAdd, Ring: api.SpecSession, Index: api.Index{Type: 1, Desc: "a"}, Payload: "x"}, {Op: api.OpRead, Key: api.SpecSession}, {Op: api.OpRead, Key: 3}, {Op: api.OpJoin, Index: api.Index{Type: 4, Desc: "j"}}, {Op: api.OpLink, Key: 3, Ring: api.SpecSession}, {Op: api.OpTimeout, Key: api.SpecSession, Time: 2}}[i*i%7]
		l = append(l, asks(t, i%2, uint64(i%5), c))
	}
	for seed := range 50 {
		m, _ := machine.New(config(), l...)
		x := seed*7919 + 1
		for i := range 500 {
			x = x*1103515245 + 12345
			a := api.Act{Kind: api.ActStep, Task: x >> 16 & 1}
			if x>>18&31 == 0 {
				a.Kind = api.ActTick
			} else if x>>18&3 == 0 {
				a.Kind = api.ActCollect
			}
			m.Do(a)
			if i%25 < 24 {
				continue
			}
			h := m.History()
			if at, e := linear.Explains(config(), l, h, linear.ByEnds(h)); at != -1 || e != api.OK {
				t.Fatal(seed, at, e)
			}
			if len(linear.ByEnds(h)) <= 5 {
				if _, is, e := linear.Any(config(), l, h); !is || e != api.OK {
					t.Fatal(seed, "no order", e)
				}
			}
		}
	}
}

func TestSerialsAsAnswered(t *testing.T) { // P27.2: a new key may have any serial that no key has that is there
	add := api.Call{Op: api.OpAdd, Ring: api.SpecSession, Index: api.Index{Type: api.TypeUser, Desc: "a"}, Payload: "x"}
	l := []api.Request{asks(t, 0, 3, get()), asks(t, 0, 0, add), asks(t, 0, 5, api.Call{Op: api.OpJoin, Index: api.Index{Type: api.TypeRing, Desc: "j"}}), asks(t, 0, 0, api.Call{Op: api.OpRead, Key: 7})}
	story := func(s, k, j int) []api.Done {
		var h []api.Done
		for i, n := range []int{s, k, j} {
			h = append(h, done(i, 0, 2*i, 2*i+1, 0, api.Response{Value: n}))
		}
		return append(h, done(3, 0, 6, 7, 0, api.Response{Code: api.ErrNone}))
	}
	explains(t, l, story(9, 77, 1<<30), []int{0, 1, 2, 3}, -1)
	explains(t, l, story(9, 77, 10), []int{0, 1, 2, 3}, -1)
	explains(t, l, story(9, 9, 10), []int{0, 1, 2, 3}, 1)
	explains(t, l, story(9, 77, 77), []int{0, 1, 2, 3}, 2)
	explains(t, l, story(9, 77, 0), []int{0, 1, 2, 3}, 2)
	explains(t, l, story(9, 77, 7), []int{0, 1, 2, 3}, 3)
}
