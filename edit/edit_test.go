package edit_test

import (
	"slices"
	"strconv"
	"strings"
	"testing"

	"warder/api"
	"warder/arena"
	"warder/edit"
	"warder/node"
	"warder/walk"
)

// names: which nibbles each serial has; digits stand for nibbles.
type names map[api.Serial]string

func nib(s string) []byte {
	var l []byte
	for _, c := range s {
		l = append(l, byte(strings.IndexRune("0123456789abcdefg", c)))
	}
	return l
}

func (n names) of(s api.Serial) []byte { return nib(n[s]) }

func (n names) serial(key string) api.Serial {
	for s, k := range n {
		if k == key {
			return s
		}
	}
	return 0
}

// shape tells a trie by depths, nibbles and serials alone.
func shape(a *arena.Arena[api.Node], l api.Link) string {
	switch l.Kind {
	case api.LinkNone:
		return "-"
	case api.LinkKey:
		return strconv.Itoa(int(l.Serial))
	}
	n, e := a.Get(l.Node)
	if e != api.OK {
		return "stale"
	}
	s := "(" + strconv.Itoa(n.Depth)
	for i := range 16 {
		if k := node.Kid(n, i); k.Kind != api.LinkNone {
			s += " " + strconv.Itoa(i) + ":" + shape(a, k)
		}
	}
	return s + ")"
}

// want is the shape of the trie of these keys.
func want(n names, keys []string, depth int) string {
	if len(keys) == 0 {
		return "-"
	}
	if len(keys) == 1 {
		return strconv.Itoa(int(n.serial(keys[0])))
	}
	for {
		by := map[byte][]string{}
		for _, k := range keys {
			by[k[depth]] = append(by[k[depth]], k)
		}
		if len(by) > 1 {
			s := "(" + strconv.Itoa(depth)
			for i := range 16 {
				if l := by["0123456789abcdef"[i]]; len(l) > 0 {
					s += " " + strconv.Itoa(i) + ":" + want(n, l, depth+1)
				}
			}
			return s + ")"
		}
		depth++
	}
}

func nodes(size int) *arena.Arena[api.Node] {
	a, _ := arena.New[api.Node](size)
	return a
}

func run(t *testing.T, s *edit.Script, e api.Errno) api.Edit {
	t.Helper()
	if e != api.OK {
		t.Fatal(e)
	}
	for need := s.Need(); ; need-- {
		if s.Need() != need {
			t.Fatal("need", s.Need(), need)
		}
		done, e := s.Step()
		if e != api.OK {
			t.Fatal(e)
		}
		if done {
			break
		}
	}
	x, e := s.Edit()
	if e != api.OK {
		t.Fatal(e)
	}
	return x
}

func sizes(t *testing.T, e api.Edit, made, old int) {
	t.Helper()
	if len(e.Made) != made || len(e.Old) != old {
		t.Errorf("made %v, old %v", e.Made, e.Old)
	}
}

func TestPlans(t *testing.T) { // P11.1
	a := nodes(20)
	n := names{1: "12", 2: "13", 3: "22", 4: "12"}
	one := insert(t, n, a, api.Link{}, nib("12"), 1)
	sizes(t, one, 0, 0)
	if one.Root != node.Key(1) || one.Leaf.Gen != 0 {
		t.Error(one)
	}
	s, e := edit.Insert(a, one.Root, nib("13"), 2, n.of, 0)
	if e != api.OK || s.Need() != 1 || s.Stood() != 0 {
		t.Error(s.Need(), e)
	}
	two := run(t, s, e)
	sizes(t, two, 1, 0)
	if two.Leaf != two.Made[0] || two.Nibble != 3 || shape(a, two.Root) != "(1 2:1 3:2)" {
		t.Error(two)
	}
	gone := remove(t, a, two.Root, "13", n)
	sizes(t, gone, 0, 1)
	if gone.Root != node.Key(1) || gone.Leaf.Gen != 0 || gone.Old[0] != two.Made[0] {
		t.Error(gone)
	}
	three := insert(t, n, a, two.Root, nib("22"), 3)
	sizes(t, three, 1, 0)
	if shape(a, three.Root) != "(0 1:(1 2:1 3:2) 2:3)" || three.Nibble != 2 {
		t.Error(three)
	}
	s, _ = edit.Insert(a, three.Root, nib("12"), 4, n.of, 0)
	if s.Stood() != 1 || s.Need() != 2 {
		t.Error(s.Stood(), s.Need())
	}
	same := run(t, s, api.OK)
	sizes(t, same, 2, 2)
	if same.Old[0] != three.Made[0] || same.Old[1] != two.Made[0] || same.Leaf != same.Made[0] || shape(a, same.Root) != "(0 1:(1 2:4 3:2) 2:3)" || shape(a, three.Root) != "(0 1:(1 2:1 3:2) 2:3)" {
		t.Error(same)
	}
	s, _ = edit.Delete(a, three.Root, nib("22"), n.of, 0)
	if s.Stood() != 3 || s.Need() != 0 {
		t.Error(s.Stood())
	}
	last := run(t, s, api.OK)
	sizes(t, last, 0, 1)
	if last.Root != two.Root {
		t.Error("what is left stands in its place")
	}
	s, _ = edit.Insert(a, one.Root, nib("12"), 9, n.of, 0)
	if x, _ := s.Edit(); s.Stood() != 1 || x.Root != node.Key(9) {
		t.Error("in the place of the root")
	}
	s, _ = edit.Delete(a, one.Root, nib("12"), n.of, 0)
	if x, e := s.Edit(); e != api.OK || x.Root != (api.Link{}) || s.Stood() != 1 {
		t.Error("to nothing", e)
	}
}

func insert(t *testing.T, n names, a *arena.Arena[api.Node], root api.Link, key []byte, k api.Serial) api.Edit {
	t.Helper()
	s, e := edit.Insert(a, root, key, k, n.of, 0)
	return run(t, s, e)
}

func remove(t *testing.T, a *arena.Arena[api.Node], root api.Link, key string, n names) api.Edit {
	t.Helper()
	s, e := edit.Delete(a, root, nib(key), n.of, 0)
	return run(t, s, e)
}

func TestErrors(t *testing.T) { // P11.1
	a := nodes(4)
	n := names{1: "12", 2: "13"}
	root := insert(t, n, a, node.Key(1), nib("13"), 2).Root
	long := make([]byte, api.MaxNibbles+1)
	for _, x := range []struct {
		a       *arena.Arena[api.Node]
		root    api.Link
		key     []byte
		name    func(api.Serial) []byte
		reserve int
		e, f    api.Errno
	}{
		{nil, root, nil, n.of, -1, api.ErrNil, api.ErrNil},
		{&arena.Arena[api.Node]{}, root, nib("12"), n.of, 0, api.ErrNil, api.ErrNil},
		{a, root, nil, nil, 0, api.ErrNil, api.ErrNil},
		{a, root, nil, n.of, 0, api.ErrArg, api.ErrArg},
		{a, root, long, n.of, 0, api.ErrArg, api.ErrArg},
		{a, node.To(api.Handle{Index: 3, Gen: 1}), nib("1g"), n.of, 0, api.ErrArg, api.ErrArg},
		{a, root, nib("12"), n.of, -1, api.ErrArg, api.ErrArg},
		{a, node.To(api.Handle{Index: 3, Gen: 1}), nib("12"), n.of, 0, api.ErrStale, api.ErrStale},
		{a, root, nib("14"), n.of, 0, api.OK, api.ErrNone},
		{a, root, nib("22"), n.of, 0, api.OK, api.ErrNone},
		{a, api.Link{}, nib("22"), n.of, 0, api.OK, api.ErrNone},
		{a, node.Key(1), long[:api.MaxNibbles], n.of, 0, api.OK, api.ErrNone},
		{a, api.Link{Kind: 9}, nib("22"), n.of, 0, api.OK, api.ErrNone},
	} {
		if s, e := edit.Insert(x.a, x.root, x.key, 5, x.name, x.reserve); e != x.e || (s == nil) != (e != api.OK) {
			t.Error(x, e)
		}
		if s, e := edit.Delete(x.a, x.root, x.key, x.name, x.reserve); e != x.f || (s == nil) != (e != api.OK) {
			t.Error(x, e)
		}
	}
	for _, s := range []*edit.Script{nil, {}} {
		_, e := s.Step()
		_, f := s.Edit()
		if e != api.ErrNil || f != api.ErrNil || s.Undo() != api.ErrNil || s.Need() != 0 || s.Stood() != 0 {
			t.Error("nil")
		}
	}
	deep, _ := node.Part(0, 1, root, 2, node.Key(7))
	h, _ := a.Alloc()
	a.Set(h, deep)
	a.Free(root.Node)
	if _, e := edit.Insert(a, node.To(h), nib("12"), 5, n.of, 0); e != api.ErrStale {
		t.Error("on the way", e)
	}
	if _, e := edit.Insert(a, node.To(h), nib("32"), 5, n.of, 0); e != api.OK {
		t.Error("beside the way", e)
	}
}

func TestStepEditUndo(t *testing.T) { // P11.2
	n := names{1: "111", 2: "112", 3: "121", 4: "122", 5: "113"}
	a := nodes(6)
	root := node.Key(1)
	for s := api.Serial(2); s <= 3; s++ {
		e := insert(t, n, a, root, n.of(s), s)
		for _, h := range e.Old {
			a.Free(h)
		}
		root = e.Root
	}
	was := a.Len()
	s, _ := edit.Insert(a, root, n.of(5), 5, n.of, 2)
	if _, e := s.Edit(); e != api.ErrState || s.Need() != 2 {
		t.Error("not made", e)
	}
	if done, e := s.Step(); done || e != api.OK || s.Need() != 1 || a.Len() != was+1 {
		t.Error(done, e)
	}
	if done, e := s.Step(); !done || e != api.OK || s.Need() != 0 {
		t.Error(done, e, a.Room())
	}
	if done, e := s.Step(); !done || e != api.OK || a.Len() != was+2 {
		t.Error("nothing more is made")
	}
	x, e := s.Edit()
	x.Made[0].Gen, x.Old[0].Gen = 99, 99
	if y, _ := s.Edit(); e != api.OK || y.Made[0].Gen == 99 || y.Old[0].Gen == 99 {
		t.Error("shares memory")
	}
	if s.Undo() != api.OK || a.Len() != was || s.Undo() != api.ErrState || s.Need() != 0 {
		t.Error("undo")
	}
	if _, e := s.Step(); e != api.ErrState {
		t.Error(e)
	}
	if _, e := s.Edit(); e != api.ErrState {
		t.Error(e)
	}
	for reserve, steps := range map[int]int{4: 0, 3: 1, 9: 0} {
		s, _ := edit.Insert(a, root, n.of(5), 5, n.of, reserve)
		for range steps {
			if _, e := s.Step(); e != api.OK {
				t.Error(reserve, e)
			}
		}
		if done, e := s.Step(); done || e != api.ErrFull || a.Len() != was || s.Need() != 0 {
			t.Error(reserve, done, e)
		}
		if _, e := s.Step(); e != api.ErrState || s.Undo() != api.ErrState {
			t.Error(e)
		}
		if _, e := s.Edit(); e != api.ErrState {
			t.Error(e)
		}
	}
	full := nodes(1)
	h, _ := full.Alloc()
	p, _ := node.Part(1, 1, node.Key(1), 2, node.Key(3))
	full.Set(h, p)
	d, _ := edit.Delete(full, node.To(h), nib("121"), n.of, 5)
	if done, e := d.Step(); !done || e != api.OK {
		t.Error("nothing is to be made: no room is asked for", e)
	}
}

func TestSeal(t *testing.T) { // P11.3
	n := names{1: "12", 2: "13"}
	a := nodes(4)
	one := insert(t, n, a, api.Link{}, nib("12"), 0)
	one, e := edit.Seal(a, one, 1)
	if e != api.OK || one.Root != node.Key(1) {
		t.Error(one, e)
	}
	two := insert(t, n, a, one.Root, nib("13"), 0)
	sealed, e := edit.Seal(a, two, 2)
	if e != api.OK || shape(a, sealed.Root) != "(1 2:1 3:2)" || sealed.Root != two.Root || !slices.Equal(sealed.Made, two.Made) {
		t.Error(sealed, e)
	}
	if sealed.Made[0].Gen = 7; two.Made[0].Gen == 7 {
		t.Error("shares memory")
	}
	for _, b := range []*arena.Arena[api.Node]{nil, {}} {
		if x, e := edit.Seal(b, two, 2); e != api.ErrNil || x.Made != nil {
			t.Error(e)
		}
	}
	d, _ := edit.Delete(a, two.Root, nib("13"), n.of, 0)
	gone, _ := d.Edit()
	for _, x := range []api.Edit{gone, {}, {Root: two.Root, Made: two.Made}, {Root: two.Root, Made: two.Made, Leaf: two.Leaf, Nibble: 9}} {
		if y, e := edit.Seal(a, x, 2); e != api.ErrState || y.Root != (api.Link{}) {
			t.Error(x, e)
		}
	}
	a.Free(two.Leaf)
	if _, e := edit.Seal(a, two, 2); e != api.ErrStale {
		t.Error(e)
	}
}

func TestFollows(t *testing.T) { // P11.4
	for seed := 1; seed <= 40; seed++ {
		a := nodes(64)
		n := names{}
		root, keys, next := api.Link{}, []string{}, api.Serial(1)
		for i := 0; i < 60; i++ {
			x := (i*i*31 + i*seed*17 + seed*7) >> 1
			key := string("01a"[x%3]) + string("0f"[x/3%2]) + string("0123"[x/6%4]) + string("5678"[x/24%4])
			used, before, room := a.Copy(), shape(a, root), a.Room()
			var s *edit.Script
			var e api.Errno
			after := keys
			if at := slices.Index(keys, key); at >= 0 && x%2 == 0 {
				s, e = edit.Delete(a, root, nib(key), n.of, 0)
				after = slices.Delete(slices.Clone(keys), at, at+1)
				if s.Stood() != n.serial(key) {
					t.Fatal("stood")
				}
			} else {
				old := n.serial(key)
				if at < 0 {
					old = 0
					after = append(slices.Clone(keys), key)
				}
				s, e = edit.Insert(a, root, nib(key), 0, n.of, 0)
				if s.Stood() != old {
					t.Fatal("stood")
				}
			}
			if e != api.OK {
				t.Fatal(e)
			}
			if i%3 == 0 {
				s.Step()
				s.Undo()
				if !sameUse(a, used) {
					t.Fatal("undone, and not as it was")
				}
				if at := slices.Index(keys, key); at >= 0 && x%2 == 0 {
					s, e = edit.Delete(a, root, nib(key), n.of, 0)
				} else {
					s, e = edit.Insert(a, root, nib(key), 0, n.of, 0)
				}
			}
			x2 := run(t, s, e)
			if len(after) >= len(keys) {
				x2, e = edit.Seal(a, x2, next)
				if e != api.OK {
					t.Fatal(e)
				}
				delete(n, n.serial(key))
				n[next] = key
				next++
			}
			if shape(a, root) != before || a.Room() != room-len(x2.Made) {
				t.Fatal("the elder trie is another one")
			}
			_, elder, _ := walk.All(a, root)
			_, now, _ := walk.All(a, x2.Root)
			for _, h := range x2.Made {
				if slices.Contains(elder, h) || !slices.Contains(now, h) {
					t.Fatal("made")
				}
			}
			for _, h := range x2.Old {
				if !slices.Contains(elder, h) || slices.Contains(now, h) {
					t.Fatal("old")
				}
				a.Free(h)
			}
			if len(now) != len(elder)+len(x2.Made)-len(x2.Old) || a.Len() != len(now) {
				t.Fatal("all others are the elder ones")
			}
			keys, root = after, x2.Root
			if got := shape(a, root); got != want(n, keys, 0) {
				t.Fatal(got, want(n, keys, 0))
			}
		}
	}
}

func sameUse(a, b *arena.Arena[api.Node]) bool {
	type one struct {
		h api.Handle
		n api.Node
	}
	var l, m []one
	for h, n := range a.All() {
		l = append(l, one{h, n})
	}
	for h, n := range b.All() {
		m = append(m, one{h, n})
	}
	return slices.Equal(l, m)
}

func TestFarBelow(t *testing.T) { // P11.1: where nobody stands on the way, those below tell where the key parts
	n := names{1: "111", 2: "112", 3: "211", 4: "212", 5: "311", 6: "121", 7: "1"}
	a := nodes(20)
	root := node.Key(1)
	for s := api.Serial(2); s <= 4; s++ {
		root = insert(t, n, a, root, n.of(s), s).Root
	}
	far := insert(t, n, a, root, n.of(5), 5)
	sizes(t, far, 1, 1)
	if shape(a, far.Root) != "(0 1:(2 1:1 2:2) 2:(2 1:3 2:4) 3:5)" || far.Nibble != 3 {
		t.Error(shape(a, far.Root))
	}
	near := insert(t, n, a, root, n.of(6), 6)
	sizes(t, near, 2, 1)
	if shape(a, near.Root) != "(0 1:(1 1:(2 1:1 2:2) 2:6) 2:(2 1:3 2:4))" {
		t.Error(shape(a, near.Root))
	}
	top, _ := a.Get(root.Node)
	a.Free(node.Kid(top, 1).Node)
	if _, e := edit.Insert(a, root, n.of(5), 5, n.of, 0); e != api.ErrStale {
		t.Error(e)
	}
	one := insert(t, n, a, api.Link{}, n.of(7), 7)
	if one.Root != node.Key(7) {
		t.Error("a key of one nibble")
	}
}

func TestNothingBesideErrors(t *testing.T) { // P11.2
	n := names{1: "12", 2: "13"}
	a := nodes(4)
	s, _ := edit.Insert(a, node.Key(1), nib("13"), 2, n.of, 0)
	s.Undo()
	if done, e := s.Step(); done || e != api.ErrState {
		t.Error(done, e)
	}
	for _, s := range []*edit.Script{nil, {}} {
		if done, e := s.Step(); done || e != api.ErrNil {
			t.Error(done, e)
		}
	}
}
