package walk_test

import (
	"bytes"
	"reflect"
	"slices"
	"testing"

	"warder/api"
	"warder/arena"
	"warder/node"
	"warder/walk"
)

func nodes(size int) *arena.Arena[api.Node] {
	a, _ := arena.New[api.Node](size)
	return a
}

func put(a *arena.Arena[api.Node], n api.Node) api.Handle {
	h, _ := a.Alloc()
	a.Set(h, n)
	return h
}

// trie is that of sorted keys (of the serials first, first + 1, ..), and how many nodes it has.
func trie(a *arena.Arena[api.Node], keys [][]byte, first, depth int) (api.Link, int) {
	if len(keys) == 0 {
		return api.Link{}, 0
	}
	if len(keys) == 1 {
		return node.Key(api.Serial(first)), 0
	}
	for keys[0][depth] == keys[len(keys)-1][depth] {
		depth++
	}
	n, all := api.Node{Depth: depth}, 1
	for i := 0; i < len(keys); {
		j := i
		for j < len(keys) && keys[j][depth] == keys[i][depth] {
			j++
		}
		l, m := trie(a, keys[i:j], first+i, depth+1)
		n, all, i = node.With(n, int(keys[i][depth]), l), all+m, j
	}
	return node.To(put(a, n)), all
}

func example() (*arena.Arena[api.Node], api.Link) {
	a := nodes(8)
	n, _ := node.Part(1, 3, node.Key(7), 5, node.Key(9))
	return a, node.To(put(a, n))
}

func TestWalk(t *testing.T) { // P10.1
	a, root := example()
	key := []byte{0, 5}
	w := walk.New(a, root, key)
	key[1] = 3
	if w.Leaf() != (api.Link{}) || len(w.Path()) != 0 {
		t.Error("no step was done")
	}
	if done, e := w.Step(); !done || e != api.OK || w.Leaf() != node.Key(9) || !slices.Equal(w.Path(), []api.Handle{root.Node}) {
		t.Error(done, e, w.Leaf())
	}
	w.Path()[0].Gen = 9
	if done, e := w.Step(); !done || e != api.OK || w.Leaf() != node.Key(9) || !slices.Equal(w.Path(), []api.Handle{root.Node}) {
		t.Error("stays so")
	}
	for _, r := range []api.Link{{}, node.Key(4)} {
		w := walk.New(a, r, nil)
		if w.Leaf() != (api.Link{}) {
			t.Error("one step at least")
		}
		if done, e := w.Step(); !done || e != api.OK || w.Leaf() != r || len(w.Path()) != 0 {
			t.Error(r)
		}
	}
	up, _ := node.Part(0, 2, root, 4, node.Key(1))
	two := node.To(put(a, up))
	w = walk.New(a, two, []byte{2, 3})
	if done, e := w.Step(); done || e != api.OK || w.Leaf() != (api.Link{}) || len(w.Path()) != 1 {
		t.Error("not done", e)
	}
	if done, _ := w.Step(); !done || w.Leaf() != node.Key(7) || len(w.Path()) != 2 {
		t.Error(w.Leaf())
	}
}

func TestErrors(t *testing.T) { // P10.1, P10.2
	a, root := example()
	up, _ := node.Part(1, 2, root, 4, node.Key(1))
	flat := node.To(put(a, up))
	w, i := walk.New(a, flat, []byte{0, 2}), walk.Each(a, flat)
	w.Step()
	i.Step()
	for range 2 {
		if done, e := w.Step(); done || e != api.ErrState || w.Leaf() != (api.Link{}) || len(w.Path()) != 1 {
			t.Error(done, e)
		}
		if l, done, e := i.Step(); done || e != api.ErrState || l != nil {
			t.Error(l, done, e)
		}
	}
	gone := walk.New(a, root, []byte{0, 3})
	all := walk.Each(a, root)
	n, _ := a.Get(root.Node)
	a.Free(root.Node)
	if _, e := gone.Step(); e != api.ErrStale {
		t.Error(e)
	}
	if _, _, e := all.Step(); e != api.ErrStale {
		t.Error(e)
	}
	back := put(a, n)
	if back.Index != root.Node.Index {
		t.Error("another place")
	}
	if _, e := gone.Step(); e != api.ErrStale || len(gone.Path()) != 0 {
		t.Error("told once, told later", e)
	}
	if _, _, e := walk.Find(a, root, nil); e != api.ErrStale {
		t.Error(e)
	}
	if l, p, e := walk.All(a, flat); e != api.ErrStale || l != nil || p != nil {
		t.Error(l, p, e)
	}
	for _, b := range []*arena.Arena[api.Node]{nil, {}} {
		for _, r := range []api.Link{{}, node.Key(1), root} {
			if _, e := walk.New(b, r, nil).Step(); e != api.ErrNil {
				t.Error(e)
			}
			if _, _, e := walk.Each(b, r).Step(); e != api.ErrNil {
				t.Error(e)
			}
			if l, p, e := walk.Find(b, r, nil); e != api.ErrNil || l != (api.Link{}) || p != nil {
				t.Error(e)
			}
			if _, _, e := walk.All(b, r); e != api.ErrNil {
				t.Error(e)
			}
		}
	}
	for _, w := range []*walk.Walk{nil, {}} {
		if done, e := w.Step(); done || e != api.ErrNil || w.Leaf() != (api.Link{}) || w.Path() != nil || w.Copy(a) != nil {
			t.Error(e)
		}
	}
	for _, i := range []*walk.Iter{nil, {}} {
		if l, done, e := i.Step(); l != nil || done || e != api.ErrNil || i.Copy(a) != nil {
			t.Error(e)
		}
	}
}

func TestEach(t *testing.T) { // P10.2
	a := nodes(8)
	low, _ := node.Part(2, 0, node.Key(2), 1, node.Key(3))
	high, _ := node.Part(3, 4, node.Key(5), 5, node.Key(6))
	root, _ := node.Part(0, 0, node.Key(1), 3, node.To(put(a, low)))
	root = node.With(node.With(root, 5, node.Key(4)), 7, node.To(put(a, high)))
	i := walk.Each(a, node.To(put(a, root)))
	for _, want := range [][]api.Serial{{1}, {2, 3, 4}, {5, 6}} {
		l, done, e := i.Step()
		if e != api.OK || !slices.Equal(l, want) || done != (want[0] == 5) {
			t.Error(l, done, e)
		}
	}
	if l, done, e := i.Step(); len(l) != 0 || !done || e != api.OK {
		t.Error(l, done, e)
	}
	for r, want := range map[api.Link]int{{}: 0, node.Key(8): 1} {
		i := walk.Each(a, r)
		if l, done, e := i.Step(); len(l) != want || !done || e != api.OK {
			t.Error(l, done, e)
		}
	}
}

func TestFindAll(t *testing.T) { // P10.3
	a, root := example()
	for _, x := range []struct {
		key  []byte
		leaf api.Link
	}{{[]byte{0, 5}, node.Key(9)}, {[]byte{0, 4}, api.Link{}}, {[]byte{8, 5}, node.Key(9)}, {[]byte{0}, api.Link{}}, {[]byte{0, 16}, api.Link{}}} {
		l, p, e := walk.Find(a, root, x.key)
		if l != x.leaf || e != api.OK || !slices.Equal(p, []api.Handle{root.Node}) {
			t.Error(x, l, p, e)
		}
	}
	if l, p, e := walk.All(a, root); !slices.Equal(l, []api.Serial{7, 9}) || !slices.Equal(p, []api.Handle{root.Node}) || e != api.OK {
		t.Error(l, p, e)
	}
	if l, p, e := walk.All(a, api.Link{}); len(l)+len(p) != 0 || e != api.OK {
		t.Error(l, p, e)
	}
}

func TestCopy(t *testing.T) { // P10.4
	a, root := example()
	up, _ := node.Part(0, 2, root, 4, node.Key(1))
	two := node.To(put(a, up))
	w, i := walk.New(a, two, []byte{2, 3}), walk.Each(a, two)
	w.Step()
	i.Step()
	b := a.Copy()
	v, j := w.Copy(b), i.Copy(b)
	a.Free(root.Node)
	if _, e := w.Step(); e != api.ErrStale {
		t.Error(e)
	}
	if done, e := v.Step(); !done || e != api.OK || v.Leaf() != node.Key(7) || len(v.Path()) != 2 || len(w.Path()) != 1 {
		t.Error(e)
	}
	if l, done, e := j.Step(); !done || e != api.OK || !slices.Equal(l, []api.Serial{7, 9, 1}) {
		t.Error(l, done, e)
	}
	if _, _, e := i.Step(); e != api.ErrStale {
		t.Error(e)
	}
	if _, e := w.Copy(b).Step(); e != api.ErrStale {
		t.Error("what was told is told", e)
	}
	c := walk.New(a, node.Key(3), nil)
	c.Step()
	if c.Copy(a).Leaf() != node.Key(3) {
		t.Error("done")
	}
}

func TestWholeTries(t *testing.T) { // P10.5
	for seed := 1; seed < 60; seed++ {
		var keys [][]byte
		for i := 0; i < seed; i++ {
			x := (i*i*7 + i*seed*13 + seed) & 0xfff
			k := append(bytes.Repeat([]byte{byte(x & 1)}, 1+seed%5), byte(x>>8&15), byte(x>>4&15), byte(x&15))
			keys = append(keys, k)
		}
		slices.SortFunc(keys, bytes.Compare)
		keys = slices.CompactFunc(keys, bytes.Equal)
		a := nodes(200)
		root, many := trie(a, keys, 1, 0)
		told, read, e := walk.All(a, root)
		var want []api.Serial
		for i, k := range keys {
			want = append(want, api.Serial(i+1))
			l, p, e := walk.Find(a, root, k)
			if l != node.Key(api.Serial(i+1)) || e != api.OK || len(p) > api.MaxNibbles {
				t.Fatal(k, l, e)
			}
		}
		if e != api.OK || !slices.Equal(told, want) || len(read) != many {
			t.Fatal(told, read, e)
		}
		steps, n := 0, 0
		for i := walk.Each(a, root); ; {
			l, done, _ := i.Step()
			steps++
			if n += len(l); done {
				break
			}
		}
		if steps != max(1, many) || n != len(keys) {
			t.Fatal("a step for each node", steps, many)
		}
		if !reflect.DeepEqual(read[:min(1, many)], func() []api.Handle {
			if many == 0 {
				return read[:0]
			}
			return []api.Handle{root.Node}
		}()) {
			t.Fatal("the root is read first")
		}
	}
}
