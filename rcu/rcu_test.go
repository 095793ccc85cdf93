package rcu_test

import (
	"reflect"
	"testing"

	"warder/api"
	"warder/rcu"
)

func of(n int) api.Retired {
	return api.Retired{Nodes: []api.Handle{{Index: n, Gen: 1}}}
}

func is(t *testing.T, r *rcu.RCU, ripe bool, waits ...int) {
	t.Helper()
	if r.Ripe() != ripe || len(waits) != len(r.Waits()) || len(waits) > 0 && !reflect.DeepEqual(r.Waits(), waits) {
		t.Errorf("ripe %v, waits %v", r.Ripe(), r.Waits())
	}
}

func TestSections(t *testing.T) { // P7.1
	for _, n := range []int{0, -1, 9} {
		if r, e := rcu.New(n); r != nil || e != api.ErrArg {
			t.Error(n, e)
		}
	}
	if _, e := rcu.New(8); e != api.OK {
		t.Error(e)
	}
	r, _ := rcu.New(2)
	if r.Leave(0) != api.ErrState || r.Enter(0) != api.OK || r.Enter(0) != api.OK || r.Depth(0) != 2 || r.Depth(1) != 0 {
		t.Error("enter")
	}
	if r.Leave(0) != api.OK || r.Leave(0) != api.OK || r.Leave(0) != api.ErrState || r.Depth(0) != 0 {
		t.Error("leave")
	}
	for _, k := range []int{-1, 2} {
		if r.Enter(k) != api.ErrArg || r.Leave(k) != api.ErrArg || r.Depth(k) != 0 {
			t.Error(k)
		}
	}
	for _, n := range []*rcu.RCU{nil, {}} {
		_, ok := n.Next()
		if n.Enter(9) != api.ErrNil || n.Leave(0) != api.ErrNil || n.Depth(0) != 0 || n.Retire(of(1)) != api.ErrNil || n.Retire(api.Retired{}) != api.ErrNil || n.Ripe() || ok || n.Waits() != nil || n.Len() != 0 || n.All() != nil {
			t.Error("nil")
		}
	}
}

func TestRow(t *testing.T) { // P7.2
	r, _ := rcu.New(3)
	is(t, r, false)
	r.Enter(0)
	if r.Retire(of(1)) != api.OK {
		t.Error("retire")
	}
	r.Enter(1)
	is(t, r, false, 0)
	r.Enter(0)
	r.Leave(0)
	is(t, r, false, 0)
	if x, ok := r.Next(); ok || x.Nodes != nil {
		t.Error("not ripe", x)
	}
	r.Retire(of(2))
	r.Leave(0)
	is(t, r, true)
	if x, ok := r.Next(); !ok || !reflect.DeepEqual(x, of(1)) {
		t.Error(x, ok)
	}
	is(t, r, false, 1)
	r.Enter(0)
	r.Leave(1)
	r.Enter(1)
	is(t, r, true)
	if x, ok := r.Next(); !ok || !reflect.DeepEqual(x, of(2)) {
		t.Error(x, ok)
	}
	if r.Retire(api.Retired{}) != api.OK || r.Len() != 0 {
		t.Error("of no handle")
	}
	r.Enter(2)
	for _, x := range []api.Retired{{Records: []api.Handle{{}}}, {Extents: []api.Handle{{}}}} {
		r.Retire(x)
	}
	is(t, r, false, 0, 1, 2)
	if r.Len() != 2 {
		t.Error(r.Len())
	}
}

func TestAllCopySame(t *testing.T) { // P7.3
	r, _ := rcu.New(2)
	r.Enter(0)
	x := of(1)
	r.Retire(x)
	r.Retire(of(2))
	x.Nodes[0].Index = 9
	r.All()[0].Nodes[0].Index = 8
	if l := r.All(); r.Len() != 2 || !reflect.DeepEqual(l, []api.Retired{of(1), of(2)}) {
		t.Error(l)
	}
	o := r.Copy()
	if !r.Same(o) {
		t.Error("copy")
	}
	o.Enter(1)
	if r.Same(o) {
		t.Error("sections")
	}
	o.Leave(1)
	if !r.Same(o) {
		t.Error("there again")
	}
	o.Leave(0)
	o.Enter(0)
	is(t, r, false, 0)
	is(t, o, true)
	if r.Same(o) {
		t.Error("who is waited for")
	}
	o.Next()
	if r.Len() != 2 || r.Same(o) {
		t.Error("the row")
	}
	for _, l := range [][2]api.Retired{{of(1), of(2)}, {of(1), {Records: of(1).Nodes}}, {of(1), {Extents: of(1).Nodes}}} {
		a, _ := rcu.New(1)
		b, _ := rcu.New(1)
		a.Retire(l[0])
		b.Retire(l[1])
		if a.Same(b) {
			t.Error(l)
		}
	}
	a, _ := rcu.New(1)
	b, _ := rcu.New(2)
	var n *rcu.RCU
	if a.Same(b) || a.Same(n) || n.Same(a) || !n.Same(nil) || !n.Same(&rcu.RCU{}) || n.Copy() != nil || (&rcu.RCU{}).Copy() != nil {
		t.Error("same")
	}
}

func TestInOrder(t *testing.T) { // P7.4
	r, _ := rcu.New(4)
	inside := [4]int{}
	type held struct {
		n   int
		who map[int]bool
	}
	var row []held
	next := 1
	for i := 0; i < 4000; i++ {
		k := (i*i + i/7) % 4
		switch (i*11 + i/5) % 5 {
		case 0, 1:
			r.Enter(k)
			inside[k]++
		case 2, 3:
			if inside[k] > 0 {
				r.Leave(k)
				if inside[k]--; inside[k] == 0 {
					for _, h := range row {
						delete(h.who, k)
					}
				}
			}
		default:
			h := held{next, map[int]bool{}}
			for t, n := range inside {
				if n > 0 {
					h.who[t] = true
				}
			}
			row = append(row, h)
			r.Retire(of(next))
			next++
		}
		for len(row) > 0 && len(row[0].who) == 0 {
			if x, ok := r.Next(); !ok || x.Nodes[0].Index != row[0].n {
				t.Fatal(x, ok)
			}
			row = row[1:]
		}
		if _, ok := r.Next(); ok || r.Len() != len(row) {
			t.Fatal("taken too early")
		}
	}
	for k := range 4 {
		for r.Leave(k) == api.OK {
		}
	}
	for r.Len() > 0 {
		if _, ok := r.Next(); !ok {
			t.Fatal("nobody is inside")
		}
	}
}

func TestOneTask(t *testing.T) { // P7.1, P7.2
	r, e := rcu.New(1)
	x := api.Retired{Records: []api.Handle{{Gen: 1}}, Nodes: []api.Handle{{Gen: 1}, {Gen: 2}}, Extents: []api.Handle{{Gen: 1}}}
	if e != api.OK || r.Retire(x) != api.OK || r.Len() != 1 {
		t.Error(e)
	}
	if y, is := r.Next(); !is || !reflect.DeepEqual(x, y) {
		t.Error(y, is)
	}
}
