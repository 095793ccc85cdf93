package lock_test

import (
	"slices"
	"testing"

	"warder/api"
	"warder/lock"
)

func is(t *testing.T, l *lock.Locks, id api.Serial, who int, had bool, row ...int) {
	t.Helper()
	w, h := l.Holder(id)
	if w != who || h != had || !slices.Equal(l.Waiting(id), row) {
		t.Errorf("lock %d: %d %v %v", id, w, h, l.Waiting(id))
	}
}

func TestTryRelease(t *testing.T) { // P8.1
	for _, n := range []int{0, -1, 9} {
		if l, e := lock.New(n); l != nil || e != api.ErrArg {
			t.Error(n, e)
		}
	}
	l, e := lock.New(3)
	if e != api.OK || !l.Try(0, 5) || l.Try(1, 5) || l.Try(2, 5) || l.Try(1, 5) {
		t.Error("try")
	}
	is(t, l, 5, 0, true, 1, 2)
	if !l.Try(0, 5) || l.Release(1, 5) || l.Release(2, 5) {
		t.Error("who has it has it; who has not gives nothing back")
	}
	is(t, l, 5, 0, true, 1, 2)
	if !l.Release(0, 5) || l.Release(0, 5) {
		t.Error("release")
	}
	is(t, l, 5, 1, true, 2)
	if !l.Try(1, 5) || l.Try(0, 5) {
		t.Error("given")
	}
	is(t, l, 5, 1, true, 2, 0)
	l.Release(1, 5)
	l.Release(2, 5)
	l.Release(0, 5)
	is(t, l, 5, 0, false)
	if !l.Try(2, 0) || !l.Try(2, 7) {
		t.Error("the great lock is one of its own")
	}
	was := l.Copy()
	for _, x := range []struct {
		task int
		id   api.Serial
	}{{-1, 5}, {3, 5}, {0, -1}, {3, 0}, {-1, 0}} {
		if l.Try(x.task, x.id) || l.Release(x.task, x.id) || l.Has(x.task, x.id) {
			t.Error(x)
		}
	}
	if !l.Same(was) {
		t.Error("changed")
	}
	for _, n := range []*lock.Locks{nil, {}} {
		n.Drop(0)
		if n.Try(0, 1) || n.Release(0, 1) || n.Has(0, 1) || n.Held(0) != nil || n.Waiting(1) != nil {
			t.Error("nil")
		}
		is(t, n, 1, 0, false)
	}
	if l, e := lock.New(8); e != api.OK || !l.Try(7, 1<<40) {
		t.Error(e)
	}
}

func TestLooks(t *testing.T) { // P8.2
	l, _ := lock.New(3)
	for _, id := range []api.Serial{9, 0, 4} {
		l.Try(1, id)
	}
	l.Try(2, 4)
	l.Try(2, 6)
	if !l.Has(1, 9) || l.Has(2, 4) || l.Has(0, 4) || l.Has(1, 5) || l.Has(0, 5) {
		t.Error("has")
	}
	if !slices.Equal(l.Held(1), []api.Serial{0, 4, 9}) || !slices.Equal(l.Held(2), []api.Serial{6}) || len(l.Held(0))+len(l.Held(-1))+len(l.Held(3)) != 0 {
		t.Error("held")
	}
	l.Waiting(4)[0] = 0
	is(t, l, 4, 1, true, 2)
	is(t, l, -4, 0, false)
	is(t, l, 5, 0, false)
}

func TestDrop(t *testing.T) { // P8.3
	l, _ := lock.New(4)
	l.Try(0, 1)
	l.Try(0, 2)
	l.Try(1, 1)
	l.Try(2, 1)
	l.Try(2, 3)
	l.Try(1, 3)
	l.Try(0, 3)
	l.Try(3, 3)
	was := l.Copy()
	l.Drop(-1)
	l.Drop(4)
	if !l.Same(was) {
		t.Error("nobody drops something")
	}
	l.Drop(0)
	is(t, l, 1, 1, true, 2)
	is(t, l, 2, 0, false)
	is(t, l, 3, 2, true, 1, 3)
	is(t, was, 3, 2, true, 1, 0, 3)
	l.Drop(3)
	l.Drop(1)
	is(t, l, 1, 2, true)
	is(t, l, 3, 2, true)
	l.Drop(2)
	empty, _ := lock.New(4)
	if !l.Same(empty) {
		t.Error("nothing is had, nobody waits")
	}
}

func TestCopySame(t *testing.T) { // P8.4
	l, _ := lock.New(3)
	l.Try(0, 1)
	l.Try(1, 1)
	o := l.Copy()
	if !l.Same(o) {
		t.Error("copy")
	}
	o.Try(2, 1)
	if l.Same(o) {
		t.Error("who waits")
	}
	is(t, l, 1, 0, true, 1)
	o = l.Copy()
	o.Release(0, 1)
	is(t, l, 1, 0, true, 1)
	if l.Same(o) {
		t.Error("who has it")
	}
	a, _ := lock.New(2)
	b, _ := lock.New(3)
	c, _ := lock.New(3)
	c.Try(2, 8)
	var n *lock.Locks
	if a.Same(b) || b.Same(c) || a.Same(n) || n.Same(a) || !n.Same(nil) || !n.Same(&lock.Locks{}) || n.Copy() != nil || (&lock.Locks{}).Copy() != nil {
		t.Error("same")
	}
}

func TestNobodyPasses(t *testing.T) { // P8.5
	l, _ := lock.New(4)
	had := map[api.Serial]int{}
	rows := map[api.Serial][]int{}
	give := func(id api.Serial) {
		if delete(had, id); len(rows[id]) > 0 {
			had[id], rows[id] = rows[id][0], rows[id][1:]
		}
	}
	for i := 0; i < 5000; i++ {
		k, id := (i*i+i/9)%4, api.Serial(i/3%3)
		who, is := had[id]
		switch {
		case i%17 == 0:
			l.Drop(k)
			for id := range api.Serial(3) {
				if who, is := had[id]; is && who == k {
					give(id)
				}
				rows[id] = slices.DeleteFunc(slices.Clone(rows[id]), func(w int) bool { return w == k })
			}
		case i*7%5 < 3:
			if got := l.Try(k, id); got != (!is || who == k) {
				t.Fatal("try")
			} else if got {
				had[id] = k
			} else if !slices.Contains(rows[id], k) {
				rows[id] = append(rows[id], k)
			}
		default:
			if l.Release(k, id) != (is && who == k) {
				t.Fatal("release")
			} else if is && who == k {
				give(id)
			}
		}
		for id := range api.Serial(3) {
			who, h := l.Holder(id)
			if w, is := had[id]; is != h || w != who || !slices.Equal(l.Waiting(id), rows[id]) {
				t.Fatal(i, id)
			}
			if h && slices.Contains(l.Waiting(id), who) || !h && len(l.Waiting(id)) > 0 {
				t.Fatal("waits for what it has")
			}
		}
	}
}

func TestOneTask(t *testing.T) { // P8.1
	l, e := lock.New(1)
	if e != api.OK || !l.Try(0, 0) || !l.Release(0, 0) {
		t.Error(e)
	}
}
