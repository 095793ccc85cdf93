package extent_test

import (
	"bytes"
	"slices"
	"testing"

	"warder/api"
	"warder/arena"
	"warder/extent"
)

func extents(size int) *arena.Arena[api.Extent] {
	a, _ := arena.New[api.Extent](size)
	return a
}

func payload(n int) []byte {
	b := make([]byte, n)
	for i := range b {
		b[i] = byte(i*7 + 1)
	}
	return b
}

func write(t *testing.T, a *arena.Arena[api.Extent], b []byte) []api.Handle {
	t.Helper()
	w, e := extent.Write(a, b)
	for done := false; !done && e == api.OK; {
		done, e = w.Step()
	}
	l, f := w.Made()
	if e != api.OK || f != api.OK {
		t.Fatal(e, f)
	}
	return l
}

func first(l []api.Handle) api.Handle {
	if len(l) == 0 {
		return api.Handle{}
	}
	return l[0]
}

func TestNeedPieces(t *testing.T) { // P13.1
	for n, want := range map[int]int{0: 0, 1: 1, 16: 1, 17: 2, 256: 16, 257: 0, -1: 0, -100: 0} {
		if extent.Need(n) != want {
			t.Error(n, extent.Need(n))
		}
	}
	l, e := extent.Pieces(payload(20))
	if e != api.OK || len(l) != 2 || l[0].N != 16 || l[1].N != 4 || l[0].Next.Gen != 0 || l[1].B[4] != 0 || l[1].B[3] != payload(20)[19] || l[0].B[15] != payload(20)[15] {
		t.Error(l, e)
	}
	if l, e := extent.Pieces(payload(257)); e != api.ErrLong || l != nil {
		t.Error(l, e)
	}
	if l, e := extent.Pieces(nil); e != api.OK || len(l) != 0 {
		t.Error(l, e)
	}
	if l, e := extent.Pieces(payload(256)); e != api.OK || len(l) != 16 {
		t.Error(l, e)
	}
}

func TestWrite(t *testing.T) { // P13.2
	for _, a := range []*arena.Arena[api.Extent]{nil, {}} {
		if w, e := extent.Write(a, payload(300)); w != nil || e != api.ErrNil {
			t.Error(e)
		}
	}
	a := extents(4)
	if w, e := extent.Write(a, payload(257)); w != nil || e != api.ErrLong {
		t.Error(e)
	}
	b := payload(33)
	w, e := extent.Write(a, b)
	if e != api.OK || w.Need() != 3 {
		t.Error(e)
	}
	b[0]++
	for need := 3; need > 0; need-- {
		if _, e := w.Made(); e != api.ErrState {
			t.Error(e)
		}
		if done, e := w.Step(); done != (need == 1) || e != api.OK || w.Need() != need-1 || a.Len() != 4-need {
			t.Error(need, done, e)
		}
	}
	if done, e := w.Step(); !done || e != api.OK || a.Len() != 3 {
		t.Error(done, e)
	}
	l, _ := w.Made()
	if x, _ := a.Get(l[0]); x.N != 16 || x.Next != l[1] || x.B[0] != payload(33)[0] {
		t.Error(x)
	}
	if x, _ := a.Get(l[2]); x.N != 1 || x.Next.Gen != 0 {
		t.Error(x)
	}
	if h, _, _ := a.Slot(0); h != l[2] {
		t.Error("the last one is made first")
	}
	l[0].Gen = 99
	if l, _ := w.Made(); l[0].Gen == 99 {
		t.Error("shares memory")
	}
	if w.Undo() != api.OK || w.Undo() != api.ErrState || a.Len() != 0 || w.Need() != 0 {
		t.Error("undo")
	}
	if _, e := w.Made(); e != api.ErrState {
		t.Error(e)
	}
	if done, e := w.Step(); done || e != api.ErrState {
		t.Error(e)
	}
	one := extents(1)
	w, _ = extent.Write(one, payload(17))
	if done, e := w.Step(); done || e != api.OK || one.Room() != 0 {
		t.Error(e)
	}
	if done, e := w.Step(); done || e != api.ErrFull || one.Room() != 1 {
		t.Error(e)
	}
	_, e = w.Step()
	_, f := w.Made()
	if e != api.ErrState || f != api.ErrState || w.Undo() != api.ErrState || w.Need() != 0 {
		t.Error(e)
	}
	w, _ = extent.Write(one, nil)
	if l, e := w.Made(); len(l) != 0 || e != api.OK {
		t.Error(e)
	}
	if done, e := w.Step(); !done || e != api.OK || one.Room() != 1 {
		t.Error(e)
	}
	for _, w := range []*extent.Writer{nil, {}} {
		_, e := w.Step()
		_, f := w.Made()
		if e != api.ErrNil || f != api.ErrNil || w.Undo() != api.ErrNil || w.Need() != 0 {
			t.Error("nil")
		}
	}
}

func TestRead(t *testing.T) { // P13.3
	for _, a := range []*arena.Arena[api.Extent]{nil, {}} {
		r, e := extent.Read(a, api.Handle{})
		l, f := extent.Chain(a, api.Handle{})
		if r != nil || l != nil || e != api.ErrNil || f != api.ErrNil {
			t.Error(e)
		}
	}
	a := extents(20)
	l := write(t, a, payload(40))
	r, e := extent.Read(a, l[0])
	for n, want := range []int{16, 32, 40, 40} {
		if e != api.OK {
			t.Fatal(e)
		}
		if len(r.Bytes()) != max(0, n*16) && n < 3 {
			t.Error(r.Bytes())
		}
		var done bool
		if done, e = r.Step(); done != (n >= 2) || !bytes.Equal(r.Bytes(), payload(40)[:want]) {
			t.Error(n, done, r.Bytes())
		}
	}
	r.Bytes()[0] = 99
	if r.Bytes()[0] == 99 {
		t.Error("shares memory")
	}
	if m, e := extent.Chain(a, l[0]); e != api.OK || !slices.Equal(m, l) {
		t.Error(m, e)
	}
	r, _ = extent.Read(a, api.Handle{})
	if done, e := r.Step(); !done || e != api.OK || len(r.Bytes()) != 0 {
		t.Error("of no extent", e)
	}
	if m, e := extent.Chain(a, api.Handle{}); len(m) != 0 || e != api.OK {
		t.Error(m, e)
	}
	for _, n := range []int{0, -1, 17} {
		x, _ := a.Get(l[1])
		x.N = n
		a.Set(l[1], x)
		r, _ := extent.Read(a, l[0])
		r.Step()
		if done, e := r.Step(); done || e != api.ErrBytes || len(r.Bytes()) != 16 {
			t.Error(n, e)
		}
		if m, e := extent.Chain(a, l[0]); m != nil || e != api.ErrBytes {
			t.Error(m, e)
		}
	}
	x, _ := a.Get(l[1])
	x.N, x.Next = 16, l[0]
	a.Set(l[1], x)
	if m, e := extent.Chain(a, l[0]); m != nil || e != api.ErrBytes {
		t.Error("round and round", e)
	}
	a.Free(l[1])
	r, _ = extent.Read(a, l[0])
	r.Step()
	if done, e := r.Step(); done || e != api.ErrStale {
		t.Error(e)
	}
	if m, e := extent.Chain(a, l[0]); m != nil || e != api.ErrStale {
		t.Error(m, e)
	}
	for _, r := range []*extent.Reader{nil, {}} {
		if done, e := r.Step(); done || e != api.ErrNil || r.Bytes() != nil {
			t.Error("nil")
		}
	}
}

func TestReadAsWritten(t *testing.T) { // P13.4
	for n := 0; n <= api.MaxPayload; n++ {
		a := extents(16)
		l := write(t, a, payload(n))
		r, _ := extent.Read(a, first(l))
		steps := 0
		for done := false; !done; steps++ {
			var e api.Errno
			if done, e = r.Step(); e != api.OK {
				t.Fatal(e)
			}
		}
		if !bytes.Equal(r.Bytes(), payload(n)) || steps != max(1, extent.Need(n)) || len(l) != extent.Need(n) || a.Len() != extent.Need(n) {
			t.Fatal(n, steps)
		}
		for _, room := range []int{1, 3, 7} {
			a := extents(room)
			w, _ := extent.Write(a, payload(n))
			var e api.Errno
			for done := false; !done && e == api.OK; {
				done, e = w.Step()
			}
			if (e == api.ErrFull) != (extent.Need(n) > room) {
				t.Fatal(n, room, e)
			}
			if w.Undo(); a.Room() != room || !a.Zero() {
				t.Fatal("not given back")
			}
		}
	}
}
