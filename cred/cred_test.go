package cred_test

import (
	"testing"

	"warder/api"
	"warder/cred"
)

var specs = []api.Serial{api.SpecThread, api.SpecProcess, api.SpecSession, api.SpecUser}

func isCell(t *testing.T, c *cred.Creds, task int, spec, s api.Serial, ver uint64, is bool) {
	t.Helper()
	if x, v, ok := c.Cell(task, spec); x != s || v != ver || ok != is {
		t.Errorf("cell %d of %d: %d %d %v, not %d %d %v", spec, task, x, v, ok, s, ver, is)
	}
}

func TestNewOfTasks(t *testing.T) { // P6.1
	if _, e := cred.New(nil); e != api.ErrArg {
		t.Error(e)
	}
	if _, e := cred.New(make([]api.Cred, 9)); e != api.ErrArg {
		t.Error(e)
	}
	for _, x := range []api.Cred{{UID: 16}, {UID: -1}, {GID: 16}, {GID: -1}, {Proc: 8}, {Proc: -1}} {
		if c, e := cred.New([]api.Cred{{}, x}); c != nil || e != api.ErrArg {
			t.Error(x, e)
		}
	}
	l := []api.Cred{{UID: 15, GID: 15, Proc: 7}, {UID: 0, GID: 3, Proc: 0}}
	c, e := cred.New(l)
	l[1].GID = 9
	if x, is := c.Of(1); e != api.OK || !is || x != (api.Cred{GID: 3}) || c.Tasks() != 2 {
		t.Error(x, is, e)
	}
	for _, k := range []int{-1, 2} {
		if x, is := c.Of(k); is || x != (api.Cred{}) {
			t.Error(k)
		}
	}
	if c, e := cred.New(make([]api.Cred, 8)); e != api.OK || c.Tasks() != 8 {
		t.Error(e)
	}
	for _, s := range specs {
		isCell(t, c, 0, s, 0, 1, true)
	}
	for _, n := range []*cred.Creds{nil, {}} {
		if _, is := n.Of(0); is || n.Tasks() != 0 {
			t.Error("nil")
		}
	}
}

func TestCellPut(t *testing.T) { // P6.2
	c, _ := cred.New([]api.Cred{{UID: 1}, {UID: 2}})
	isCell(t, c, 0, api.SpecThread, 0, 1, true)
	if c.Put(0, api.SpecThread, 5) != api.OK || c.Put(0, api.SpecThread, 5) != api.OK {
		t.Error("put")
	}
	isCell(t, c, 0, api.SpecThread, 5, 3, true)
	c.Put(0, api.SpecThread, 0)
	c.Put(0, api.SpecThread, 0)
	isCell(t, c, 0, api.SpecThread, 0, 5, true)
	if c.Put(1, api.SpecUser, api.MaxSerial) != api.OK {
		t.Error("put")
	}
	isCell(t, c, 1, api.SpecUser, api.MaxSerial, 2, true)
	was := c.Copy()
	for _, x := range []struct {
		task    int
		spec, s api.Serial
	}{{2, api.SpecUser, 1}, {-1, api.SpecUser, 1}, {0, 0, 1}, {0, -5, 1}, {0, 1, 1}, {0, api.SpecUser, -1}, {0, api.SpecUser, api.MaxSerial + 1}} {
		if c.Put(x.task, x.spec, x.s) != api.ErrArg {
			t.Error(x)
		}
	}
	if !c.Same(was) {
		t.Error("refused, and changed")
	}
	isCell(t, c, 2, api.SpecUser, 0, 0, false)
	isCell(t, c, 0, 0, 0, 0, false)
	isCell(t, c, 0, -5, 0, 0, false)
	isCell(t, nil, 0, api.SpecUser, 0, 0, false)
	if (*cred.Creds)(nil).Put(9, 9, 9) != api.ErrNil || (&cred.Creds{}).Put(0, api.SpecUser, 1) != api.ErrNil {
		t.Error("nil")
	}
}

func TestDropHolds(t *testing.T) { // P6.3
	c, _ := cred.New([]api.Cred{{UID: 1}, {UID: 2}})
	if c.Put(0, api.SpecProcess, 7) != api.OK {
		t.Error("put")
	}
	isCell(t, c, 1, api.SpecProcess, 7, 2, true)
	isCell(t, c, 1, api.SpecUser, 0, 1, true)
	if c.Holds(7) != 1 || c.Drop(7) != 1 {
		t.Error("one cell, of two tasks")
	}
	isCell(t, c, 0, api.SpecProcess, 0, 3, true)
	for i, s := range specs {
		c.Put(i%2, s, 9)
	}
	c.Put(1, api.SpecThread, 9)
	if c.Holds(9) != 5 || c.Holds(0) != 0 || c.Holds(-3) != 0 || c.Holds(8) != 0 {
		t.Error("holds")
	}
	was := c.Copy()
	if c.Drop(0) != 0 || c.Drop(-1) != 0 || c.Drop(8) != 0 || !c.Same(was) {
		t.Error("drops what nobody holds")
	}
	if c.Drop(9) != 5 || c.Drop(9) != 0 || c.Holds(9) != 0 {
		t.Error("drop")
	}
	isCell(t, c, 0, api.SpecThread, 0, 3, true)
	if (*cred.Creds)(nil).Drop(1) != 0 || (&cred.Creds{}).Holds(1) != 0 {
		t.Error("nil")
	}
}

func TestCopySame(t *testing.T) { // P6.4
	c, _ := cred.New([]api.Cred{{UID: 1}, {UID: 2}})
	o := c.Copy()
	if !c.Same(o) {
		t.Error("copy")
	}
	o.Put(0, api.SpecSession, 4)
	isCell(t, c, 0, api.SpecSession, 0, 1, true)
	if c.Same(o) {
		t.Error("a cell")
	}
	o.Put(0, api.SpecSession, 0)
	if c.Same(o) {
		t.Error("a version")
	}
	x, _ := cred.New([]api.Cred{{UID: 1}, {UID: 3}})
	y, _ := cred.New([]api.Cred{{UID: 1}})
	var n *cred.Creds
	if c.Same(x) || c.Same(y) || c.Same(n) || n.Same(c) || !n.Same(nil) || !n.Same(&cred.Creds{}) || n.Copy() != nil || (&cred.Creds{}).Copy() != nil {
		t.Error("same")
	}
}

func TestWhoSees(t *testing.T) { // P6.5
	l := []api.Cred{{UID: 1, Proc: 1}, {UID: 2, Proc: 1}, {UID: 1, Proc: 2}, {UID: 3, Proc: 0}}
	for task := range l {
		for _, s := range specs {
			c, _ := cred.New(l)
			c.Put(task, s, 6)
			for o := range l {
				sees := o == task
				switch s {
				case api.SpecProcess, api.SpecSession:
					sees = l[o].Proc == l[task].Proc
				case api.SpecUser:
					sees = l[o].UID == l[task].UID
				}
				for _, u := range specs {
					if x, _, _ := c.Cell(o, u); (x == 6) != (sees && u == s) {
						t.Error(task, s, o, u, x)
					}
				}
			}
		}
	}
}

func TestEdges(t *testing.T) { // P6.1, P6.3
	c, e := cred.New([]api.Cred{{UID: 15}})
	if e != api.OK || c.Tasks() != 1 {
		t.Error(e)
	}
	c.Put(0, api.SpecUser, 1)
	if c.Holds(1) != 1 || c.Drop(1) != 1 {
		t.Error("the least serial")
	}
}
