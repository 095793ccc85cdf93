package assoc_test

import (
	"slices"
	"strconv"
	"testing"

	"warder/api"
	"warder/arena"
	"warder/assoc"
	"warder/nibble"
	"warder/rcu"
	"warder/walk"
)

func user(d string) api.Index { return api.Index{Type: api.TypeUser, Desc: d} }

func parts(size int) (*arena.Arena[api.Node], *rcu.RCU) {
	a, _ := arena.New[api.Node](size)
	r, _ := rcu.New(2)
	return a, r
}

func table(t *testing.T, size int) (*assoc.Table, *arena.Arena[api.Node], *rcu.RCU) {
	a, r := parts(size)
	x, e := assoc.New(a, r)
	if e != api.OK {
		t.Fatal(e)
	}
	return x, a, r
}

func TestPutDropClear(t *testing.T) { // P12.1
	a, r := parts(1)
	for _, x := range []struct {
		a *arena.Arena[api.Node]
		r *rcu.RCU
	}{{nil, r}, {a, nil}, {&arena.Arena[api.Node]{}, r}, {a, &rcu.RCU{}}} {
		if o, e := assoc.New(x.a, x.r); o != nil || e != api.ErrNil {
			t.Error(e)
		}
	}
	x, a, r := table(t, 9)
	put := func(d string, s, stood api.Serial, e api.Errno) {
		t.Helper()
		if got, f := x.Put(user(d), s); got != stood || f != e {
			t.Error(d, s, got, f)
		}
	}
	put("a", 1, 0, api.OK)
	put("b", 2, 0, api.OK)
	if x.Nodes() != 1 {
		t.Error(x.Nodes())
	}
	put("a", 3, 1, api.OK)
	if s, e := x.Drop(user("b")); s != 2 || e != api.OK {
		t.Error(s, e)
	}
	if !slices.Equal(x.Keys(), []api.Serial{3}) || x.Version() != 4 {
		t.Error(x.Keys(), x.Version())
	}
	put("a", 3, 3, api.OK)
	put("b", 3, 0, api.ErrExists)
	put("", 3, 0, api.ErrArg)
	put("b", 0, 0, api.ErrArg)
	put("b", api.MaxSerial+1, 0, api.ErrArg)
	put("b", 1, 0, api.OK)
	if x.Version() != 5 {
		t.Error("the same one changes nothing", x.Version())
	}
	for d, e := range map[string]api.Errno{"c": api.ErrNone, "": api.ErrArg, "x y": api.ErrArg} {
		if s, f := x.Drop(user(d)); s != 0 || f != e {
			t.Error(d, f)
		}
	}
	n := r.Len()
	if x.Clear() != api.OK || x.Len() != 0 || x.Version() != 6 || len(x.Keys()) != 0 || x.Root() != (api.Link{}) || r.Len() != n+1 {
		t.Error("clear")
	}
	if x.Clear() != api.OK || x.Version() != 6 {
		t.Error("nothing changes")
	}
	x, a, _ = table(t, 1)
	x.Put(user("a"), 1)
	x.Put(user("b"), 2)
	was, _ := x.Copy(a, r)
	if s, e := x.Put(user("a"), 3); s != 0 || e != api.ErrFull || !x.Same(was) || a.Room() != 0 {
		t.Error(s, e)
	}
	if s, e := x.Put(user("b"), 2); s != 2 || e != api.OK {
		t.Error("nothing is to be made", e)
	}
	if _, e := x.Drop(user("a")); e != api.OK {
		t.Error("none is to be made", e)
	}
	for _, n := range []*assoc.Table{nil, {}} {
		_, e := n.Put(user(""), 0)
		_, f := n.Drop(user(""))
		_, g := n.Copy(a, r)
		if e != api.ErrNil || f != api.ErrNil || g != api.ErrNil || n.Clear() != api.ErrNil {
			t.Error("nil")
		}
	}
}

func TestLooks(t *testing.T) { // P12.2
	x, _, _ := table(t, 9)
	x.Put(user("a"), 7)
	x.Put(user("b"), 2)
	for _, c := range []struct {
		d  string
		s  api.Serial
		is bool
	}{{"a", 7, true}, {"b", 2, true}, {"c", 0, false}, {"", 0, false}} {
		if s, is := x.Find(user(c.d)); s != c.s || is != c.is {
			t.Error(c, s)
		}
		if y, is := x.Index(c.s); is != c.is || is && y != user(c.d) {
			t.Error(c, y)
		}
	}
	if x.Len() != 2 || x.Nodes() != 1 || x.Version() != 2 || x.Root().Kind != api.LinkNode {
		t.Error(x.Len(), x.Nodes(), x.Version(), x.Root())
	}
	x.Keys()[0] = 99
	want := []api.Serial{7, 2}
	if nibble.Less(user("b"), user("a")) {
		want = []api.Serial{2, 7}
	}
	if !slices.Equal(x.Keys(), want) {
		t.Error(x.Keys())
	}
	for _, n := range []*assoc.Table{nil, {}} {
		_, is := n.Find(user("a"))
		_, in := n.Index(1)
		if is || in || n.Keys() != nil || n.Nodes() != 0 || n.Root() != (api.Link{}) || n.Version() != 0 || n.Len() != 0 || n.Collect() != 0 {
			t.Error("nil")
		}
	}
}

func TestCollectCount(t *testing.T) { // P12.3
	x, a, r := table(t, 9)
	r.Enter(0)
	x.Put(user("a"), 1)
	x.Put(user("b"), 2)
	x.Put(user("a"), 3)
	x.Put(user("a"), 4)
	if x.Collect() != 0 || a.Len() != 3 {
		t.Error("somebody is inside")
	}
	r.Leave(0)
	if n := x.Collect(); n != 2 || a.Len() != 1 || x.Collect() != 0 {
		t.Error(n, a.Len())
	}
	r.Retire(api.Retired{Records: []api.Handle{{Gen: 1}}, Nodes: []api.Handle{{Index: 8, Gen: 4}}})
	if x.Collect() != 0 || r.Len() != 0 {
		t.Error("what is not there is not given back")
	}
	bad := api.Index{Type: 9, Desc: "a"}
	for n, l := range [][]api.Index{{}, {user("a"), user("b")}, nil} {
		if n < 2 && assoc.Count(l...) != n {
			t.Error(n)
		}
	}
	if assoc.Count(user("a"), user("a"), bad) != 0 || assoc.Count(user("a"), bad, user("b"), user("a"), bad) != 1 {
		t.Error("each counts once, those that may not be for nothing")
	}
}

func TestCopySame(t *testing.T) { // P12.4
	x, a, r := table(t, 9)
	x.Put(user("a"), 1)
	x.Put(user("b"), 2)
	b, q := a.Copy(), r.Copy()
	if _, e := x.Copy(nil, q); e != api.ErrNil {
		t.Error(e)
	}
	if _, e := x.Copy(b, &rcu.RCU{}); e != api.ErrNil {
		t.Error(e)
	}
	y, e := x.Copy(b, q)
	if e != api.OK || !x.Same(y) {
		t.Error(e)
	}
	y.Put(user("c"), 3)
	if x.Len() != 2 || len(x.Keys()) != 2 || len(y.Keys()) != 3 || x.Same(y) || r.Len() != 0 {
		t.Error("not apart")
	}
	y.Drop(user("c"))
	if x.Same(y) {
		t.Error("versions")
	}
	z, _ := assoc.New(b, q)
	z.Put(user("a"), 1)
	z.Put(user("b"), 4)
	var n *assoc.Table
	if x.Same(z) || n.Same(x) || x.Same(n) || !n.Same(nil) || !n.Same(&assoc.Table{}) {
		t.Error("same")
	}
}

func TestReadersRead(t *testing.T) { // P12.5
	x, a, r := table(t, 200)
	at := map[api.Index]api.Serial{}
	type view struct {
		root api.Link
		keys []api.Serial
	}
	var held *view
	for i := 1; i < 1500; i++ {
		d := user("k" + strconv.Itoa((i*i+i/7)%23))
		if i%3 == 0 {
			x.Drop(d)
			delete(at, d)
		} else {
			x.Put(d, api.Serial(i))
			at[d] = api.Serial(i)
		}
		var l []api.Index
		for y, s := range at {
			l = append(l, y)
			if got, _ := x.Find(y); got != s {
				t.Fatal(y)
			}
		}
		slices.SortFunc(l, func(a, b api.Index) int {
			if nibble.Less(a, b) {
				return -1
			}
			return 1
		})
		var want []api.Serial
		for _, y := range l {
			want = append(want, at[y])
		}
		if !slices.Equal(x.Keys(), want) || x.Nodes() != assoc.Count(l...) || x.Len() != len(l) {
			t.Fatal(i, x.Keys(), want)
		}
		x.Collect()
		if held == nil {
			r.Enter(1)
			held = &view{x.Root(), x.Keys()}
		}
		if keys, _, e := walk.All(a, held.root); e != api.OK || !slices.Equal(keys, held.keys) {
			t.Fatal("a reader reads something else", e)
		}
		if i%40 == 0 {
			r.Leave(1)
			held = nil
			x.Collect()
			if a.Len() != x.Nodes() {
				t.Fatal("left in use", a.Len(), x.Nodes())
			}
		}
	}
}

func TestNothingBesideErrors(t *testing.T) { // P12.1
	x, _, _ := table(t, 9)
	x.Put(user("a"), 1)
	for _, c := range []struct {
		x *assoc.Table
		d string
		s api.Serial
		e api.Errno
	}{{nil, "a", 1, api.ErrNil}, {x, "", 1, api.ErrArg}, {x, "b", 1, api.ErrExists}, {x, "b", api.MaxSerial + 1, api.ErrArg}, {x, "b", api.MaxSerial, api.OK}} {
		if s, e := c.x.Put(user(c.d), c.s); s != 0 || e != c.e {
			t.Error(c, s, e)
		}
	}
	for _, c := range []struct {
		x *assoc.Table
		d string
		e api.Errno
	}{{nil, "a", api.ErrNil}, {x, "", api.ErrArg}, {x, "c", api.ErrNone}} {
		if s, e := c.x.Drop(user(c.d)); s != 0 || e != c.e {
			t.Error(c, s, e)
		}
	}
	x.Clear()
	if _, is := x.Index(1); is {
		t.Error("stands nowhere any more")
	}
	if s, e := x.Put(user("z"), 1); s != 0 || e != api.OK {
		t.Error(s, e)
	}
	var l []api.Index
	y, _, _ := table(t, 400)
	for i := range 60 {
		y.Collect()
		l = append(l, user("k"+strconv.Itoa(i*i%97)), user("k"+strconv.Itoa(i)))
		y.Put(l[2*i], api.Serial(2*i+1))
		y.Put(l[2*i+1], api.Serial(2*i+2))
	}
	if y.Nodes() != assoc.Count(l...) {
		t.Error("in whatever order", y.Nodes(), assoc.Count(l...))
	}
}
