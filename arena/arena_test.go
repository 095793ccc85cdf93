package arena_test

import (
	"testing"

	"warder/api"
	"warder/arena"
)

func h(i int, gen uint64) api.Handle { return api.Handle{Index: i, Gen: gen} }

func TestGivenOutAndBack(t *testing.T) { // P3.1
	for _, n := range []int{0, -1, 4097} {
		if a, e := arena.New[int](n); a != nil || e != api.ErrArg {
			t.Error(n, e)
		}
	}
	if a, e := arena.New[int](4096); e != api.OK || a.Size() != 4096 {
		t.Error(e)
	}
	a, _ := arena.New[int](2)
	alloc := func(want api.Handle, e api.Errno) {
		t.Helper()
		x, got := a.Alloc()
		if x != want || got != e {
			t.Error(x, got)
		}
		if v, _ := a.Get(x); v != 0 {
			t.Error("not zero")
		}
	}
	alloc(h(0, 1), api.OK)
	alloc(h(1, 1), api.OK)
	alloc(api.Handle{}, api.ErrFull)
	if a.Set(h(0, 1), 7) != api.OK || a.Set(h(1, 1), 8) != api.OK {
		t.Error("Set")
	}
	if x, e := a.Get(h(0, 1)); x != 7 || e != api.OK {
		t.Error(x, e)
	}
	if a.Free(h(0, 1)) != api.OK || a.Free(h(0, 1)) != api.ErrStale {
		t.Error("Free")
	}
	for _, x := range []api.Handle{h(0, 1), h(0, 2), h(1, 2), h(1, 0), h(2, 1), h(-1, 1), {}} {
		if v, e := a.Get(x); e != api.ErrStale || v != 0 || a.Set(x, 3) != api.ErrStale || a.Free(x) != api.ErrStale {
			t.Error(x, v, e)
		}
	}
	alloc(h(0, 2), api.OK)
	a.Free(h(1, 1))
	a.Free(h(0, 2))
	alloc(h(0, 3), api.OK)
	alloc(h(1, 2), api.OK)
	b, _ := arena.New[int](3)
	b.Alloc()
	b.Free(h(0, 1))
	if x, _ := b.Alloc(); x != h(0, 2) {
		t.Error("given back ones come first", x)
	}
	if x, _ := b.Alloc(); x != h(1, 1) {
		t.Error("the least one that never was in use", x)
	}
	for _, n := range []*arena.Arena[int]{nil, {}} {
		if _, e := n.Alloc(); e != api.ErrNil {
			t.Error(e)
		}
		if _, e := n.Get(h(0, 1)); e != api.ErrNil || n.Set(h(0, 1), 1) != api.ErrNil || n.Free(h(0, 1)) != api.ErrNil {
			t.Error(e)
		}
	}
}

func TestLooks(t *testing.T) { // P3.2
	a, _ := arena.New[string](4)
	for _, s := range []string{"a", "b", "c"} {
		x, _ := a.Alloc()
		a.Set(x, s)
	}
	a.Free(h(1, 1))
	if a.Size() != 4 || a.Len() != 2 || a.Room() != 2 || !a.Zero() {
		t.Error(a.Size(), a.Len(), a.Room())
	}
	for i, want := range []struct {
		h  api.Handle
		x  string
		is bool
	}{{h(0, 1), "a", true}, {h(1, 2), "", false}, {h(2, 1), "c", true}, {h(3, 1), "", false}, {}} {
		if x, s, is := a.Slot(i); x != want.h || s != want.x || is != want.is {
			t.Error(i, x, s, is)
		}
	}
	if x, _, is := a.Slot(-1); is || x != (api.Handle{}) {
		t.Error(x)
	}
	all := a.All()
	for range 2 {
		told := ""
		for x, s := range all {
			told += s
			a.Free(x)
			y, _ := a.Alloc()
			a.Set(y, s)
			if a.Room() > 1 {
				z, _ := a.Alloc()
				a.Set(z, "?")
				defer a.Free(z)
			}
		}
		if told != "ac" && told != "a?c" {
			t.Error(told)
		}
	}
	for range all {
		break
	}
	for _, n := range []*arena.Arena[string]{nil, {}} {
		for range n.All() {
			t.Error("of nothing")
		}
		if _, _, is := n.Slot(0); n.Size() != 0 || n.Len() != 0 || n.Room() != 0 || !n.Zero() || is {
			t.Error("of nothing")
		}
	}
}

func TestCopySame(t *testing.T) { // P3.3
	a, _ := arena.New[int](3)
	a.Alloc()
	a.Alloc()
	b := a.Copy()
	if !a.Same(b) || !b.Same(a) {
		t.Error("a copy")
	}
	b.Set(h(0, 1), 5)
	if v, _ := a.Get(h(0, 1)); v != 0 || a.Same(b) {
		t.Error("not apart")
	}
	b = a.Copy()
	a.Free(h(0, 1))
	a.Free(h(1, 1))
	b.Free(h(1, 1))
	b.Free(h(0, 1))
	if a.Same(b) {
		t.Error("what is given out next is not the same")
	}
	c, _ := arena.New[int](4)
	d, _ := arena.New[int](3)
	var n *arena.Arena[int]
	if c.Same(d) || n.Same(c) || c.Same(n) || !n.Same(nil) || n.Copy() != nil || !n.Same(&arena.Arena[int]{}) || (&arena.Arena[int]{}).Copy() != nil {
		t.Error("sizes, nil")
	}
	x, _ := arena.New[any](1)
	k, _ := x.Alloc()
	x.Set(k, []int{1})
	if x.Same(x.Copy()) {
		t.Error("what can't be compared is not the same")
	}
}

func TestNeverTwice(t *testing.T) { // P3.4
	a, _ := arena.New[int](5)
	had := map[api.Handle]bool{}
	var use []api.Handle
	for i := 0; i < 500; i++ {
		if i*7%3 == 0 || len(use) == 0 {
			x, e := a.Alloc()
			if (e == api.ErrFull) != (len(use) == 5) {
				t.Fatal(e)
			}
			if e == api.OK {
				if v, _ := a.Get(x); had[x] || v != 0 {
					t.Fatal(x, v)
				}
				had[x] = true
				a.Set(x, i+1)
				use = append(use, x)
			}
		} else {
			k := i % len(use)
			a.Free(use[k])
			use = append(use[:k], use[k+1:]...)
		}
		live := map[api.Handle]bool{}
		for _, x := range use {
			live[x] = true
		}
		for x := range had {
			if _, e := a.Get(x); (e == api.OK) != live[x] {
				t.Fatal("stale", x)
			}
		}
		if a.Len()+a.Room() != a.Size() || a.Len() != len(use) || !a.Zero() {
			t.Fatal("counts")
		}
	}
}
