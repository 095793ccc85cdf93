package book_test

import (
	"slices"
	"testing"

	"warder/api"
	"warder/book"
)

func rec(s api.Serial) api.Record {
	return api.Record{Serial: s, Index: api.Index{Type: 1, Desc: "d"}, Ver: 1}
}

func want(t *testing.T, got, e api.Errno) {
	t.Helper()
	if got != e {
		t.Errorf("%d, not %d", got, e)
	}
}

func put(t *testing.T, b *book.Book, s api.Serial) api.Handle {
	t.Helper()
	h, e := b.Prepare()
	want(t, e, api.OK)
	want(t, b.Publish(h, rec(s)), api.OK)
	return h
}

func TestPrepareUndoPublish(t *testing.T) { // P18.1
	for _, n := range []int{0, -1, 65} {
		if b, e := book.New(n); b != nil || e != api.ErrArg {
			t.Error(n, e)
		}
	}
	b, e := book.New(64)
	want(t, e, api.OK)
	if b.Room() != 64 {
		t.Error(b.Room())
	}
	b, _ = book.New(2)
	h, e := b.Prepare()
	want(t, e, api.OK)
	if r, e := b.At(h); r != (api.Record{}) || e != api.OK {
		t.Error(r, e)
	}
	want(t, b.Undo(h), api.OK)
	want(t, b.Undo(h), api.ErrStale)
	want(t, b.Publish(h, rec(1)), api.ErrStale)
	want(t, b.Publish(h, rec(0)), api.ErrArg)
	h = put(t, b, 7)
	k, _ := b.Prepare()
	if _, e := b.Prepare(); e != api.ErrFull {
		t.Error(e)
	}
	want(t, b.Publish(k, rec(0)), api.ErrArg)
	want(t, b.Publish(k, rec(-3)), api.ErrArg)
	want(t, b.Publish(k, rec(api.MaxSerial+1)), api.ErrArg)
	want(t, b.Publish(k, rec(7)), api.ErrExists)
	want(t, b.Publish(h, rec(7)), api.ErrState)
	want(t, b.Publish(h, rec(8)), api.ErrState)
	want(t, b.Undo(h), api.ErrState)
	if r, e := b.At(k); r != (api.Record{}) || e != api.OK {
		t.Error("refused, and changed", r)
	}
	want(t, b.Publish(k, rec(8)), api.OK)
	b.Remove(8)
	want(t, b.Publish(k, rec(8)), api.ErrState)
	want(t, b.Undo(k), api.ErrState)
}

func TestGetAtHandleSet(t *testing.T) { // P18.2
	b, _ := book.New(3)
	h := put(t, b, 7)
	if r, is := b.Get(7); r != rec(7) || !is {
		t.Error(r)
	}
	if x, is := b.Handle(7); x != h || !is {
		t.Error(x)
	}
	if r, is := b.Get(8); r != (api.Record{}) || is {
		t.Error(r)
	}
	if x, is := b.Handle(8); x != (api.Handle{}) || is {
		t.Error(x)
	}
	want(t, b.Set(8, rec(8)), api.ErrNone)
	want(t, b.Set(7, api.Record{Serial: 9, Index: api.Index{Type: 2, Desc: "e"}, UID: 4, Dead: true}), api.OK)
	if r, _ := b.Get(7); r != (api.Record{Serial: 7, Index: api.Index{Type: 1, Desc: "d"}, UID: 4, Dead: true}) {
		t.Error(r)
	}
	b.Remove(7)
	if r, e := b.At(h); r.UID != 4 || e != api.OK {
		t.Error(r, e)
	}
	b.Free(h)
	if r, e := b.At(h); r != (api.Record{}) || e != api.ErrStale {
		t.Error(r, e)
	}
}

func TestRemoveFree(t *testing.T) { // P18.3
	b, _ := book.New(1)
	h, _ := b.Prepare()
	want(t, b.Free(h), api.ErrState)
	want(t, b.Publish(h, rec(7)), api.OK)
	want(t, b.Free(h), api.ErrState)
	if x, e := b.Remove(6); x != (api.Handle{}) || e != api.ErrNone {
		t.Error(x, e)
	}
	if x, e := b.Remove(7); x != h || e != api.OK {
		t.Error(x, e)
	}
	if _, is := b.Get(7); is {
		t.Error("still there")
	}
	if _, e := b.Remove(7); e != api.ErrNone {
		t.Error(e)
	}
	if r, e := b.At(h); r != rec(7) || e != api.OK {
		t.Error(r, e)
	}
	if _, e := b.Prepare(); e != api.ErrFull {
		t.Error(e)
	}
	want(t, b.Free(h), api.OK)
	want(t, b.Free(h), api.ErrStale)
	b, _ = book.New(2)
	h = put(t, b, 7)
	b.Remove(7)
	k := put(t, b, 7)
	want(t, b.Free(k), api.ErrState)
	want(t, b.Undo(h), api.ErrState)
	want(t, b.Free(h), api.OK)
	if x, _ := b.Handle(7); x != k {
		t.Error("the serial leads to the newer one")
	}
}

func TestLooks(t *testing.T) { // P18.4
	b, _ := book.New(4)
	put(t, b, 9)
	put(t, b, 3)
	b.Prepare()
	if s, e := b.Next(8); s != 10 || e != api.OK {
		t.Error(s, e)
	}
	if b.Len() != 2 || b.Room() != 1 || b.Size() != 4 || !b.Zero() {
		t.Error(b.Len(), b.Room(), b.Size())
	}
	all := b.All()
	for range 2 {
		var l []api.Serial
		for r := range all {
			l = append(l, r.Serial)
			b.Remove(9)
		}
		if !slices.Equal(l, []api.Serial{3, 9}) && !slices.Equal(l, []api.Serial{3}) {
			t.Error(l)
		}
	}
	for range all {
		break
	}
	for _, n := range []*book.Book{nil, {}} {
		_, e := n.Prepare()
		_, f := n.At(api.Handle{})
		_, g := n.Remove(0)
		_, i := n.Next(0)
		_, get := n.Get(1)
		_, at := n.Handle(1)
		for _, x := range []api.Errno{e, f, g, i, n.Undo(api.Handle{}), n.Publish(api.Handle{}, rec(0)), n.Set(0, rec(0)), n.Free(api.Handle{})} {
			want(t, x, api.ErrNil)
		}
		for range n.All() {
			t.Error("nil")
		}
		if get || at || n.Len() != 0 || n.Room() != 0 || n.Size() != 0 || n.Zero() {
			t.Error("nil")
		}
	}
}

func TestCopySame(t *testing.T) { // P18.5
	b, _ := book.New(3)
	h := put(t, b, 5)
	o := b.Copy()
	if !b.Same(o) {
		t.Error("copy")
	}
	o.Set(5, api.Record{UID: 3})
	if r, _ := b.Get(5); r.UID != 0 || b.Same(o) {
		t.Error("not apart")
	}
	o = b.Copy()
	o.Remove(5)
	if b.Same(o) {
		t.Error("removed")
	}
	o.Free(h)
	b.Remove(5)
	b.Free(h)
	if !b.Same(o) {
		t.Error("the same again")
	}
	x, _ := b.Prepare()
	b.Undo(x)
	c, _ := book.New(4)
	d, _ := book.New(3)
	var n *book.Book
	if b.Same(o) || c.Same(d) || n.Same(b) || b.Same(n) || !n.Same(nil) || !n.Same(&book.Book{}) || n.Copy() != nil || (&book.Book{}).Copy() != nil {
		t.Error("same")
	}
}

// What a slot is.
const (
	isPrepared = 1 + iota
	isPublished
	isRemoved
)

func TestFollows(t *testing.T) { // P18.6
	b, _ := book.New(5)
	state := map[api.Handle]int{}
	for i := 0; i < 3000; i++ {
		was := b.Copy()
		k := (i*i + i/3) % 7
		var hs []api.Handle
		for h := range state {
			hs = append(hs, h)
		}
		slices.SortFunc(hs, func(x, y api.Handle) int { return int(x.Gen)*8 + x.Index - int(y.Gen)*8 - y.Index })
		var h api.Handle
		if len(hs) > 0 {
			h = hs[max(0, len(hs)-1-i%9)]
		}
		var e api.Errno
		switch s := api.Serial(1 + k); i * 13 % 5 {
		case 0:
			var x api.Handle
			if x, e = b.Prepare(); e == api.OK {
				if state[x] != 0 {
					t.Fatal("given out twice")
				}
				state[x] = isPrepared
			}
		case 1:
			if e = b.Undo(h); e == api.OK {
				state[h] = 9
			}
		case 2:
			if e = b.Publish(h, rec(s)); e == api.OK {
				state[h] = isPublished
			}
		case 3:
			var x api.Handle
			if x, e = b.Remove(s); e == api.OK {
				state[x] = isRemoved
			}
		default:
			if e = b.Free(h); e == api.OK {
				state[h] = 9
			}
		}
		if e != api.OK && !b.Same(was) {
			t.Fatal("refused, and changed")
		}
		count := map[int]int{}
		for h, s := range state {
			count[s]++
			if _, e := b.At(h); (e == api.ErrStale) != (s == 9) {
				t.Fatal(h, s, e)
			}
		}
		if count[isPrepared]+count[isPublished]+count[isRemoved]+b.Room() != b.Size() || b.Len() != count[isPublished] || !b.Zero() {
			t.Fatal(count)
		}
	}
}
