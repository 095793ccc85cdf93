package serial_test

import (
	"slices"
	"testing"

	"warder/api"
	"warder/serial"
)

func h(i int) api.Handle { return api.Handle{Index: i, Gen: 1} }

func want(t *testing.T, got, e api.Errno) {
	t.Helper()
	if got != e {
		t.Errorf("%d, not %d", got, e)
	}
}

func TestPutGetDrop(t *testing.T) { // P15.1
	for _, n := range []int{0, -1, 65} {
		if x, e := serial.New(n); x != nil || e != api.ErrArg {
			t.Error(n, e)
		}
	}
	if _, e := serial.New(64); e != api.OK {
		t.Error(e)
	}
	for s, is := range map[api.Serial]bool{0: false, 1: true, -1: false, api.MaxSerial: true, api.MaxSerial + 1: false} {
		if serial.May(s) != is {
			t.Error(s)
		}
	}
	x, _ := serial.New(2)
	want(t, x.Put(0, h(1)), api.ErrArg)
	want(t, x.Put(api.MaxSerial+1, h(1)), api.ErrArg)
	want(t, x.Put(1, api.Handle{Index: 4}), api.ErrArg)
	want(t, x.Put(5, h(1)), api.OK)
	want(t, x.Put(5, h(2)), api.ErrExists)
	want(t, x.Put(api.MaxSerial, h(1)), api.OK)
	want(t, x.Put(5, h(2)), api.ErrExists)
	want(t, x.Put(6, h(2)), api.ErrFull)
	if y, is := x.Get(5); y != h(1) || !is {
		t.Error(y, is)
	}
	if y, is := x.Get(6); y != (api.Handle{}) || is {
		t.Error(y, is)
	}
	want(t, x.Drop(6), api.ErrNone)
	want(t, x.Drop(5), api.OK)
	want(t, x.Drop(5), api.ErrNone)
	want(t, x.Put(6, h(2)), api.OK)
	for _, n := range []*serial.Table{nil, {}} {
		want(t, n.Put(0, h(0)), api.ErrNil)
		want(t, n.Drop(0), api.ErrNil)
		_, e := n.Next(0)
		want(t, e, api.ErrNil)
		_, is := n.Get(1)
		_, of := n.Of(h(1))
		if is || of || n.Len() != 0 {
			t.Error("nil")
		}
		for range n.All() {
			t.Error("nil")
		}
	}
}

func TestNextOfLenAll(t *testing.T) { // P15.2
	x, _ := serial.New(2)
	next := func(draw uint64, s api.Serial) {
		t.Helper()
		was := x.Copy()
		if got, e := x.Next(draw); got != s || e != api.OK || !x.Same(was) {
			t.Error(draw, got, e)
		}
	}
	next(6, 7)
	x.Put(7, h(3))
	next(6, 8)
	next(6+api.MaxSerial, 8)
	next(1073741823, 1073741824)
	x.Put(1073741824, h(3))
	next(1073741823, 1)
	want(t, x.Put(9, h(1)), api.ErrFull)
	next(1<<64-1, 1)
	if s, is := x.Of(h(3)); s != 7 || !is {
		t.Error(s, is)
	}
	if s, is := x.Of(h(4)); s != 0 || is {
		t.Error(s, is)
	}
	if s, is := x.Of(api.Handle{}); s != 0 || is {
		t.Error(s, is)
	}
	y, _ := serial.New(9)
	for _, s := range []api.Serial{50, 3, 8, 1 << 29} {
		y.Put(s, h(int(s)))
	}
	all := y.All()
	for range 2 {
		var l []api.Serial
		for s, k := range all {
			l = append(l, s)
			if k != h(int(s)) {
				t.Error(s, k)
			}
			y.Drop(8)
			y.Put(60, h(60))
		}
		if !slices.Equal(l, []api.Serial{3, 8, 50, 1 << 29}) && !slices.Equal(l, []api.Serial{3, 50, 60, 1 << 29}) {
			t.Error(l)
		}
	}
	for range all {
		break
	}
	if y.Len() != 4 {
		t.Error(y.Len())
	}
}

func TestCopySame(t *testing.T) { // P15.3
	x, _ := serial.New(3)
	x.Put(4, h(1))
	y := x.Copy()
	if !x.Same(y) {
		t.Error("copy")
	}
	y.Put(5, h(1))
	if _, is := x.Get(5); is || x.Same(y) {
		t.Error("not apart")
	}
	a, _ := serial.New(3)
	a.Put(4, h(2))
	b, _ := serial.New(4)
	b.Put(4, h(1))
	var n *serial.Table
	if x.Same(a) || x.Same(b) || x.Same(n) || n.Same(x) || !n.Same(nil) || !n.Same(&serial.Table{}) || n.Copy() != nil || (&serial.Table{}).Copy() != nil {
		t.Error("same")
	}
}

func TestNextCanBePut(t *testing.T) { // P15.4
	x, _ := serial.New(64)
	for i := range uint64(64) {
		s, e := x.Next(i * i * 77777777777 % (1<<30 + 5) / (1 + i%3*1000000))
		want(t, e, api.OK)
		want(t, x.Put(s, h(1)), api.OK)
	}
	s, e := x.Next(3)
	want(t, e, api.OK)
	want(t, x.Put(s, h(1)), api.ErrFull)
}

func TestEdges(t *testing.T) { // P15.1, P15.2
	x, e := serial.New(1)
	want(t, e, api.OK)
	want(t, x.Put(api.MaxSerial-1, h(1)), api.OK)
	if s, e := x.Next(api.MaxSerial - 2); s != api.MaxSerial || e != api.OK {
		t.Error(s, e)
	}
	if s, e := (*serial.Table)(nil).Next(4); s != 0 || e != api.ErrNil {
		t.Error(s, e)
	}
}
