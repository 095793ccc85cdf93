package search_test

import (
	"slices"
	"strconv"
	"testing"

	"warder/api"
	"warder/edit"
	"warder/extent"
	"warder/nibble"
	"warder/search"
	"warder/seen"
	"warder/vault"
)

type world struct {
	*vault.Vault
	t    *testing.T
	draw uint64
}

func build(t *testing.T) *world {
	t.Helper()
	v, e := vault.New(api.Config{Creds: []api.Cred{{UID: 1}, {UID: 2, Proc: 1}}, Keys: 40, Nodes: 200, Extents: 100, Count: 100, Bytes: 9999})
	if e != api.OK {
		t.Fatal(e)
	}
	return &world{Vault: v, t: t}
}

func (w *world) do(d api.Deed) api.Serial {
	w.t.Helper()
	n, e := w.Do(0, d)
	if e != api.OK {
		w.t.Fatal(d.Kind, e)
	}
	return api.Serial(n)
}

func (w *world) edit(ring api.Serial, x api.Index, s api.Serial, out bool) api.Edit {
	w.t.Helper()
	r, _ := w.Key(ring)
	c, e := edit.Insert(w.Nodes(), r.Root, nibble.Of(x), s, w.Name, 0)
	if out {
		c, e = edit.Delete(w.Nodes(), r.Root, nibble.Of(x), w.Name, 0)
	}
	for done := false; !done && e == api.OK; {
		done, e = c.Step()
	}
	if e != api.OK {
		w.t.Fatal(e)
	}
	a, _ := c.Edit()
	return a
}

func (w *world) top(cell api.Serial) api.Serial {
	w.t.Helper()
	h, _ := w.Book().Prepare()
	w.draw++
	return w.do(api.Deed{Kind: api.DeedInstall, Index: ring("_t"), Cell: cell, Record: h, Draw: w.draw - 1})
}

func (w *world) add(in api.Serial, x api.Index) api.Serial {
	w.t.Helper()
	h, _ := w.Book().Prepare()
	d := api.Deed{Kind: api.DeedAdd, Ring: in, Index: x, Record: h, A: w.edit(in, x, 0, false), Draw: w.draw}
	if x.Type != api.TypeRing {
		c, _ := extent.Write(w.Extents(), []byte("p"))
		c.Step()
		d.Payload, _ = c.Made()
		d.Size = 1
	}
	w.draw++
	return w.do(d)
}

func (w *world) link(in, s api.Serial) {
	w.t.Helper()
	r, _ := w.Key(s)
	w.do(api.Deed{Kind: api.DeedLink, Key: s, Ring: in, A: w.edit(in, r.Index, s, false)})
}

func user(d string) api.Index { return api.Index{Type: api.TypeUser, Desc: d} }

func ring(d string) api.Index { return api.Index{Type: api.TypeRing, Desc: d} }

func (w *world) find(want api.Index, exact api.Serial, roots ...api.Root) (*search.Find, *seen.Set) {
	s := seen.New()
	return search.New(w.Vault, 0, roots, want, exact, s), s
}

func own(l ...api.Serial) []api.Root {
	var r []api.Root
	for _, s := range l {
		r = append(r, api.Root{Serial: s, Possessed: true})
	}
	return r
}

func run(t *testing.T, f *search.Find) (api.Serial, bool, api.Errno, int) {
	t.Helper()
	for n := 1; n < 10000; n++ {
		if _, _, e := f.Result(); e != api.ErrState {
			t.Error("told ahead", e)
		}
		if f.Step() {
			s, p, e := f.Result()
			if !f.Step() {
				t.Error("done stays done")
			}
			return s, p, e, n
		}
	}
	t.Fatal("no end")
	return 0, false, 0, 0
}

func is(t *testing.T, f *search.Find, s api.Serial, p bool, e api.Errno, steps int) {
	t.Helper()
	if gs, gp, ge, n := run(t, f); gs != s || gp != p || ge != e || steps > 0 && n != steps {
		t.Errorf("%d %v %d in %d steps", gs, gp, ge, n)
	}
}

func TestFind(t *testing.T) { // P22.1
	w := build(t)
	r := w.top(api.SpecThread)
	a := w.add(r, user("a"))
	q := w.add(r, ring("q"))
	b := w.add(q, user("b"))
	f, s := w.find(user("a"), 0, own(r)...)
	is(t, f, a, true, api.OK, 2)
	if l := s.All(); len(l) != 3 || l[0].Kind != api.SeenKey || l[0].Serial != r || l[1].Kind != api.SeenContent || l[2].Serial != a {
		t.Error(l)
	}
	f, s = w.find(user("b"), 0, own(r)...)
	is(t, f, b, true, api.OK, 5)
	if s.Len() != 5 || !w.Still(s) {
		t.Error(s.All())
	}
	f, _ = w.find(user("c"), 0, own(r)...)
	is(t, f, 0, false, api.ErrNone, 6)
	f, _ = w.find(user("a"), 0)
	is(t, f, 0, false, api.ErrNone, 1)
	f, s = w.find(user("a"), 0, own(99, a, r, r)...)
	is(t, f, a, true, api.OK, 4)
	if s.Len() != 4 {
		t.Error(s.All())
	}
	f, _ = w.find(user("a"), a, own(r)...)
	is(t, f, a, true, api.OK, 2)
	f, _ = w.find(user("a"), b, own(r)...)
	is(t, f, 0, false, api.ErrNone, 0)
	f, _ = w.find(user(""), 0, own(r)...)
	is(t, f, 0, false, api.ErrNone, 0)
	if f := search.New(nil, 0, own(r), user("a"), 0, nil); !f.Step() {
		t.Error("nil")
	}
	f = search.New(w.Vault, 0, own(r), user("a"), 0, nil)
	is(t, f, a, true, api.OK, 2)
	for _, f := range []*search.Find{nil, {}} {
		if x, p, e := f.Result(); x != 0 || p || e != api.ErrNil || !f.Step() || f.Copy(w.Vault, nil) != nil {
			t.Error("nil")
		}
	}
}

func TestFindRightsAndLives(t *testing.T) { // P22.1
	w := build(t)
	r := w.top(api.SpecThread)
	a := w.add(r, user("a"))
	q := w.add(r, ring("q"))
	w.add(q, user("a"))
	w.add(q, user("b"))
	find := func(x api.Index, exact api.Serial, possessed bool) (api.Serial, bool, api.Errno) {
		t.Helper()
		f, _ := w.find(x, exact, api.Root{Serial: r, Possessed: possessed})
		s, p, e, _ := run(t, f)
		return s, p, e
	}
	want := func(x api.Index, exact api.Serial, possessed bool, s api.Serial, e api.Errno) {
		t.Helper()
		if gs, gp, ge := find(x, exact, possessed); gs != s || ge != e || gp != (possessed && e == api.OK) {
			t.Error(gs, gp, ge)
		}
	}
	want(user("a"), 0, false, 0, api.ErrNone)
	w.do(api.Deed{Kind: api.DeedPerm, Key: r, Perm: 0x3f080000})
	want(user("a"), 0, false, 0, api.ErrAccess)
	want(user("a"), a, false, a, api.OK)
	w.do(api.Deed{Kind: api.DeedPerm, Key: a, Perm: 0x37090000})
	want(user("a"), 0, false, a, api.OK)
	want(user("a"), 0, true, a, api.OK)
	w.do(api.Deed{Kind: api.DeedPerm, Key: a, Perm: 0x37000000})
	w.do(api.Deed{Kind: api.DeedPerm, Key: q, Perm: 0})
	want(user("a"), 0, true, 0, api.ErrAccess)
	want(user("b"), 0, true, 0, api.ErrNone)
	w.do(api.Deed{Kind: api.DeedPerm, Key: q, Perm: 0x08000000})
	want(user("a"), 0, true, a+2, api.OK)
	w.do(api.Deed{Kind: api.DeedExpiry, Key: a + 2, Expiry: 1})
	w.Tick()
	want(user("a"), 0, true, 0, api.ErrAccess)
	want(user("a"), a+2, true, a+2, api.OK)
	w.do(api.Deed{Kind: api.DeedRevoke, Key: a})
	want(user("a"), 0, true, 0, api.ErrRevoked)
	w.do(api.Deed{Kind: api.DeedPerm, Key: a, Perm: 0x3f3f3f3f})
	want(user("a"), 0, true, 0, api.ErrRevoked)
	w.do(api.Deed{Kind: api.DeedInvalidate, Key: a})
	want(user("a"), 0, true, 0, api.ErrExpired)
	w.do(api.Deed{Kind: api.DeedExpiry, Key: r, Expiry: 1})
	want(user("b"), 0, true, 0, api.ErrNone)
}

func TestFindDepthAndOrder(t *testing.T) { // P22.1
	w := build(t)
	r := w.top(api.SpecThread)
	at := r
	var l []api.Serial
	for i := 1; i <= 7; i++ {
		l = append(l, w.add(at, user("k"+strconv.Itoa(i))))
		at = w.add(at, ring("r"+strconv.Itoa(i)))
	}
	for i, k := range l {
		f, _ := w.find(user("k"+strconv.Itoa(i+1)), 0, own(r)...)
		e := api.OK
		if i >= api.MaxDepth {
			k, e = 0, api.ErrNone
		}
		s, _, got, _ := run(t, f)
		if s != k || got != e {
			t.Error(i, s, got)
		}
	}
	w = build(t)
	r = w.top(api.SpecThread)
	x, y := w.add(r, ring("x")), w.add(r, ring("y"))
	firstOne, second := x, y
	if nibble.Less(ring("y"), ring("x")) {
		firstOne, second = y, x
	}
	deep := w.add(firstOne, ring("z"))
	in := w.add(deep, user("k"))
	w.add(second, user("k"))
	f, _ := w.find(user("k"), 0, own(r)...)
	s, _, _, _ := run(t, f)
	if s != in {
		t.Error("all below a keyring stands ahead of the next one")
	}
	w.link(second, firstOne)
	f, set := w.find(user("none"), 0, own(r)...)
	run(t, f)
	if n := len(slices.DeleteFunc(set.All(), func(x api.Seen) bool { return x.Kind != api.SeenContent })); n != 4 {
		t.Error("each is gone through once", n)
	}
}

func TestBelow(t *testing.T) { // P22.2
	w := build(t)
	r := w.top(api.SpecThread)
	a := w.add(r, user("a"))
	q := w.add(r, ring("q"))
	w.add(q, user("b"))
	below := func(from, target api.Serial, found bool, levels int, deep bool) (*seen.Set, int) {
		t.Helper()
		s := seen.New()
		b := search.NewBelow(w.Vault, from, target, s)
		n := 1
		for ; !b.Step() && n < 1000; n++ {
		}
		if f, l, d := b.Result(); f != found || l != levels || d != deep || !b.Step() {
			t.Error(f, l, d)
		}
		return s, n
	}
	if s, n := below(r, q, true, 1, false); n != 3 || s.Len() != 3 || !w.Still(s) {
		t.Error(n, s.All())
	}
	if _, n := below(q, r, false, 1, false); n != 2 {
		t.Error(n)
	}
	below(r, r, true, 0, false)
	below(r, 99, false, 2, false)
	below(a, 99, false, 0, false)
	below(77, 99, false, 0, false)
	below(r, a, false, 2, false)
	at := q
	var l []api.Serial
	for i := 3; i <= 8; i++ {
		at = w.add(at, ring("r"+strconv.Itoa(i)))
		l = append(l, at)
		below(r, 99, false, min(i, api.MaxDepth), i > api.MaxDepth)
	}
	below(r, l[3], true, 5, false)
	below(r, l[4], false, 6, true)
	below(q, l[4], true, 5, false)
	other := w.add(r, ring("other"))
	w.link(other, q)
	w.link(other, l[0])
	s, _ := below(r, 99, false, 6, true)
	if !w.Still(s) {
		t.Error("still")
	}
	for _, b := range []*search.Below{nil, {}, search.NewBelow(nil, 1, 2, nil)} {
		if f, l, d := b.Result(); f || l != 0 || d || !b.Step() || b.Copy(w.Vault, nil) != nil {
			t.Error("nil")
		}
	}
}

func TestGoneNode(t *testing.T) { // P22.1, P22.2
	w := build(t)
	r := w.top(api.SpecThread)
	w.add(r, user("a"))
	w.add(r, user("b"))
	f, s := w.find(user("a"), 0, own(r)...)
	b := search.NewBelow(w.Vault, r, 99, s)
	f.Step()
	b.Step()
	k, _ := w.Key(r)
	w.Nodes().Free(k.Root.Node)
	if x, p, e := func() (api.Serial, bool, api.Errno) { f.Step(); return f.Result() }(); x != 0 || p || e != api.ErrStale {
		t.Error(x, p, e)
	}
	if !b.Step() {
		t.Error("it is done")
	}
}

func TestCopy(t *testing.T) { // P22.3
	w := build(t)
	r := w.top(api.SpecThread)
	q := w.add(r, ring("q"))
	b := w.add(q, user("b"))
	w.add(r, user("c"))
	for n := range 5 {
		f, s := w.find(user("b"), 0, own(r)...)
		l := search.NewBelow(w.Vault, r, q, s)
		for range n {
			f.Step()
			l.Step()
		}
		v := w.Copy()
		g, m := f.Copy(v, s.Copy()), l.Copy(v, s.Copy())
		w2 := *w
		w2.Vault = w.Copy()
		h := f.Copy(w2.Vault, seen.New())
		w2.do(api.Deed{Kind: api.DeedInvalidate, Key: b})
		w2.do(api.Deed{Kind: api.DeedInvalidate, Key: r})
		for w2.Collect() {
		}
		for !h.Step() {
		}
		for !g.Step() || !m.Step() {
		}
		x, _, e := g.Result()
		found, levels, _ := m.Result()
		if x != b || e != api.OK || !found || levels != 1 {
			t.Error(n, x, e, found)
		}
		for !f.Step() {
		}
		if x, _, _ := f.Result(); x != b {
			t.Error("the first one goes on")
		}
	}
}

func TestSearchAnew(t *testing.T) { // P22.4
	for seed := 1; seed < 40; seed++ {
		w := build(t)
		x := seed * 7919
		pick := func(n int) int {
			x = x*1103515245 + 12345
			return (x >> 16 & 0x7fff) % n
		}
		r := w.top(api.SpecThread)
		rings := []api.Serial{r}
		for i := range 12 {
			in := rings[pick(len(rings))]
			if pick(2) == 0 {
				rings = append(rings, w.add(in, ring("r"+strconv.Itoa(i))))
			} else {
				k := w.add(in, user("k"+strconv.Itoa(pick(4))))
				if pick(3) == 0 {
					w.do(api.Deed{Kind: api.DeedRevoke, Key: k})
				} else if pick(3) == 0 {
					w.do(api.Deed{Kind: api.DeedPerm, Key: k, Perm: 0x37000000})
				}
			}
		}
		for k := range 4 {
			want := user("k" + strconv.Itoa(k))
			f, s := w.find(want, 0, own(r)...)
			n, p, e, steps := run(t, f)
			if m, q, d := outright(w, want, r); m != n || d != e || q != p {
				t.Fatal(n, e, m, d)
			}
			if steps > w.Book().Len()*(api.MaxNibbles+2)+w.Nodes().Len() {
				t.Fatal("steps", steps)
			}
			// What is changed elsewhere leaves all that was noted as it was.
			for range 6 {
				o := *w
				o.Vault = w.Copy()
				switch in := rings[pick(len(rings))]; pick(3) {
				case 0:
					o.add(in, user("k"+strconv.Itoa(pick(4))))
				case 1:
					if k := api.Serial(2 + pick(12)); w.Name(k) != nil {
						o.do(api.Deed{Kind: api.DeedInvalidate, Key: k})
					}
				default:
					o.do(api.Deed{Kind: api.DeedClear, Ring: in})
				}
				if o.Still(s) {
					g, _ := o.find(want, 0, own(r)...)
					if m, _, d, _ := run(t, g); m != n || d != e {
						t.Fatal("still so, and comes to something else")
					}
				}
			}
		}
	}
}

// outright goes through keyrings as the words say, without steps.
func outright(w *world, want api.Index, root api.Serial) (api.Serial, bool, api.Errno) {
	kept, found := api.OK, api.Serial(0)
	taken := map[api.Serial]bool{}
	view := w.View().Keys
	get := func(s api.Serial) api.KeyView {
		for _, k := range view {
			if k.Record.Serial == s {
				return k
			}
		}
		return api.KeyView{}
	}
	var through func(s api.Serial, depth int)
	through = func(s api.Serial, depth int) {
		k := get(s)
		if found != 0 || depth > api.MaxDepth || taken[s] {
			return
		}
		taken[s] = true
		if k.Record.Dead || k.Record.Revoked || k.Record.Perm>>24&8 == 0 {
			return
		}
		for _, l := range k.Links {
			if r := get(l).Record; r.Index == want && !r.Dead {
				e := api.OK
				if r.Revoked {
					e = api.ErrRevoked
				} else if r.Perm>>24&8 == 0 {
					e = api.ErrAccess
				} else {
					found = l
					return
				}
				if kept == api.OK {
					kept = e
				}
			}
		}
		for _, l := range k.Links {
			if r := get(l).Record; r.Index.Type == api.TypeRing && !r.Dead {
				through(l, depth+1)
			}
		}
	}
	through(root, 1)
	if found != 0 {
		return found, true, api.OK
	}
	if kept != api.OK {
		return 0, false, kept
	}
	return 0, false, api.ErrNone
}

func TestSeveralLevels(t *testing.T) { // P22.2: a keyring stands once in each level, but may in several
	w := build(t)
	r := w.top(api.SpecThread)
	a, b := w.add(r, ring("a")), w.add(r, ring("b"))
	at := b
	for _, d := range []string{"c", "d", "e"} {
		at = w.add(at, ring(d))
	}
	w.link(a, b)
	s := seen.New()
	x := search.NewBelow(w.Vault, r, 99, s)
	for !x.Step() {
	}
	if found, levels, deep := x.Result(); found || levels != 6 || deep {
		t.Error(found, levels, deep)
	}
	if n := s.Len(); n != 12 {
		t.Error("each noted once", n)
	}
}
