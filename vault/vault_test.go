package vault_test

import (
	"reflect"
	"slices"
	"strconv"
	"testing"

	"warder/api"
	"warder/edit"
	"warder/extent"
	"warder/nibble"
	"warder/seen"
	"warder/types"
	"warder/vault"
	"warder/walk"
)

func config() api.Config {
	return api.Config{Creds: []api.Cred{{UID: 1, GID: 2}, {UID: 3, GID: 4, Proc: 1}}, Keys: 16, Nodes: 100, Extents: 50, Count: 12, Bytes: 400}
}

func fresh(t *testing.T) *vault.Vault {
	t.Helper()
	v, e := vault.New(config())
	if e != api.OK {
		t.Fatal(e)
	}
	return v
}

func index(k api.KeyType, d string) api.Index { return api.Index{Type: k, Desc: d} }

func payload(t *testing.T, v *vault.Vault, s string) []api.Handle {
	t.Helper()
	w, e := extent.Write(v.Extents(), []byte(s))
	for done := false; !done && e == api.OK; {
		done, e = w.Step()
	}
	l, _ := w.Made()
	if e != api.OK {
		t.Fatal(e)
	}
	return l
}

func edited(t *testing.T, s *edit.Script, e api.Errno) api.Edit {
	t.Helper()
	for done := false; !done && e == api.OK; {
		done, e = s.Step()
	}
	if e != api.OK {
		t.Fatal(e)
	}
	x, _ := s.Edit()
	return x
}

func in(t *testing.T, v *vault.Vault, ring api.Serial, x api.Index, s api.Serial) api.Edit {
	t.Helper()
	r, _ := v.Key(ring)
	c, e := edit.Insert(v.Nodes(), r.Root, nibble.Of(x), s, v.Name, 0)
	return edited(t, c, e)
}

func out(t *testing.T, v *vault.Vault, ring, s api.Serial) api.Edit {
	t.Helper()
	r, _ := v.Key(ring)
	c, e := edit.Delete(v.Nodes(), r.Root, v.Name(s), v.Name, 0)
	return edited(t, c, e)
}

func do(t *testing.T, v *vault.Vault, task int, d api.Deed) int {
	t.Helper()
	n, e := v.Do(task, d)
	if e != api.OK || (n == 0) == (d.Kind == api.DeedAdd || d.Kind == api.DeedInstall) {
		t.Fatal(d.Kind, n, e)
	}
	sound(t, v)
	return n
}

func prepared(t *testing.T, v *vault.Vault) api.Handle {
	t.Helper()
	h, e := v.Book().Prepare()
	if e != api.OK {
		t.Fatal(e)
	}
	return h
}

func addDeed(t *testing.T, v *vault.Vault, ring api.Serial, x api.Index, p string, draw uint64) api.Deed {
	return api.Deed{Kind: api.DeedAdd, Ring: ring, Index: x, Record: prepared(t, v), Payload: payload(t, v, p), Size: len(p), A: in(t, v, ring, x, 0), Draw: draw}
}

func add(t *testing.T, v *vault.Vault, ring api.Serial, x api.Index, p string, draw uint64) api.Serial {
	t.Helper()
	return api.Serial(do(t, v, 0, addDeed(t, v, ring, x, p, draw)))
}

func install(t *testing.T, v *vault.Vault, cell api.Serial, draw uint64) api.Serial {
	t.Helper()
	return api.Serial(do(t, v, 0, api.Deed{Kind: api.DeedInstall, Index: index(api.TypeRing, "_r"), Cell: cell, Record: prepared(t, v), Draw: draw}))
}

func rec(t *testing.T, v *vault.Vault, s api.Serial) api.Record {
	t.Helper()
	r, is := v.Key(s)
	if !is {
		t.Fatal("not there", s)
	}
	return r
}

func gone(t *testing.T, v *vault.Vault, l ...api.Serial) {
	t.Helper()
	for _, s := range l {
		if r, is := v.Key(s); is || r != (api.Record{}) {
			t.Error("is there", s)
		}
	}
}

func account(t *testing.T, v *vault.Vault, uid int, keys, bytes uint64) {
	t.Helper()
	if k, b := v.Quota().Of(uid); k != keys || b != bytes {
		t.Errorf("account of %d: %d %d", uid, k, b)
	}
}

func text(v *vault.Vault, s api.Serial) string {
	for _, k := range v.View().Keys {
		if k.Record.Serial == s {
			return k.Payload
		}
	}
	return "none"
}

// sound counts anew what all tables say (P20.7).
func sound(t *testing.T, v *vault.Vault) {
	t.Helper()
	refs, ins := map[api.Serial]int{}, map[api.Serial]int{}
	accounts := map[int][2]uint64{}
	nodes, extents := 0, 0
	for r := range v.Book().All() {
		keys, l, e := walk.All(v.Nodes(), r.Root)
		chain, f := extent.Chain(v.Extents(), r.Payload)
		if e != api.OK || f != api.OK {
			t.Fatal(r.Serial, e, f)
		}
		for _, k := range keys {
			refs[k]++
			ins[k]++
		}
		nodes += len(l)
		extents += len(chain)
		if r.Dead {
			if len(keys)+len(chain) > 0 || r.Size != 0 || r.Charge != 0 || r.In == 0 {
				t.Error("dead, and has something", r)
			}
			continue
		}
		a := accounts[r.UID]
		accounts[r.UID] = [2]uint64{a[0] + 1, a[1] + r.Charge}
		if b := text(v, r.Serial); !types.IsRing(r.Index.Type) && len(b) != r.Size {
			t.Error(r, b)
		}
	}
	for r := range v.Book().All() {
		if r.Refs != refs[r.Serial]+v.Creds().Holds(r.Serial) || r.In != ins[r.Serial] || !r.Dead && r.Refs == 0 {
			t.Error("refs", r, refs[r.Serial], ins[r.Serial])
		}
	}
	keys, bytes := v.Quota().Limits()
	for uid := range v.Quota().Users() {
		k, b := v.Quota().Of(uid)
		if a := accounts[uid]; a[0] != k || a[1] != b || k > keys || b > bytes {
			t.Error("account", uid, k, b, a)
		}
	}
	w := v.Copy()
	for w.Collect() {
	}
	if w.Rcu().Len() == 0 && (w.Book().Size()-w.Book().Room() != w.Book().Len() || w.Nodes().Len() != nodes || w.Extents().Len() != extents) {
		t.Error("in use", w.Book().Room(), w.Nodes().Len(), nodes, w.Extents().Len(), extents)
	}
	if !w.Book().Zero() || !w.Nodes().Zero() || !w.Extents().Zero() {
		t.Error("a free slot is not zero")
	}
}

func TestNewMayTables(t *testing.T) { // P20.1
	for i, f := range []func(c *api.Config){
		func(c *api.Config) { c.Creds = nil }, func(c *api.Config) { c.Creds[0].UID = 16 }, func(c *api.Config) { c.Creds = make([]api.Cred, 9) },
		func(c *api.Config) { c.Keys = 0 }, func(c *api.Config) { c.Keys = 65 }, func(c *api.Config) { c.Nodes = 0 }, func(c *api.Config) { c.Nodes = 513 },
		func(c *api.Config) { c.Extents = 0 }, func(c *api.Config) { c.Extents = 513 }, func(c *api.Config) { c.Count = api.MaxLimit + 1 }, func(c *api.Config) { c.Bytes = 1 << 63 },
	} {
		c := config()
		f(&c)
		if v, e := vault.New(c); v != nil || e != api.ErrArg || vault.May(c) != api.ErrArg {
			t.Error(i, e)
		}
	}
	c := config()
	c.Keys, c.Nodes, c.Extents, c.Count, c.Bytes = 64, 512, 512, api.MaxLimit, 0
	if vault.May(c) != api.OK {
		t.Error("may")
	}
	c = config()
	v, _ := vault.New(c)
	c.Creds[0].UID = 9
	x := v.Config()
	if !reflect.DeepEqual(x, config()) || v.Now() != 0 {
		t.Error(x)
	}
	x.Creds[0].UID = 9
	if !reflect.DeepEqual(v.Config(), config()) {
		t.Error("shares memory")
	}
	k, b := v.Quota().Limits()
	if v.Book().Size() != 16 || v.Nodes().Size() != 100 || v.Extents().Size() != 50 || v.Quota().Users() != 16 || k != 12 || b != 400 || v.Creds().Tasks() != 2 || v.Rcu().Enter(1) != api.OK || v.Rcu().Depth(1) != 1 || !v.Locks().Try(1, 3) || !v.Locks().Has(1, 3) {
		t.Error("tables")
	}
	for _, n := range []*vault.Vault{nil, {}} {
		_, e := n.Do(9, api.Deed{})
		if n.Book() != nil || n.Nodes() != nil || n.Extents() != nil || n.Quota() != nil || n.Creds() != nil || n.Rcu() != nil || n.Locks() != nil || n.Now() != 0 || n.Config().Keys != 0 || e != api.ErrNil || n.Undo(api.Deed{}) != api.ErrNil || n.Tick() != nil || n.Collect() || n.Reserve() != 0 || n.View().Keys != nil || n.Copy() != nil || !n.Same(nil) || n.Same(v) || v.Same(n) {
			t.Error("nil")
		}
		_, is := n.Key(1)
		if is || n.Name(1) != nil || n.Rights(0, 1, true) != 0 || n.Look(api.Seen{Kind: 1, Serial: 1}) != (api.Seen{}) || n.Still(seen.New()) {
			t.Error("nil")
		}
	}
}

func TestKeyNameRights(t *testing.T) { // P20.2
	v := fresh(t)
	r := install(t, v, api.SpecThread, 0)
	k := add(t, v, r, index(api.TypeUser, "k"), "pay", 1)
	if x := rec(t, v, k); x.Serial != 2 || x.Index != index(api.TypeUser, "k") || x.Size != 3 {
		t.Error(x)
	}
	if !slices.Equal(v.Name(k), nibble.Of(index(api.TypeUser, "k"))) || v.Name(9) != nil {
		t.Error("name")
	}
	for _, x := range []struct {
		task      int
		s         api.Serial
		possessed bool
		r         api.Right
	}{{0, k, false, 3}, {0, k, true, 63}, {1, k, false, 0}, {1, k, true, 63}, {2, k, true, 0}, {-1, k, true, 0}, {0, 9, true, 0}} {
		if got := v.Rights(x.task, x.s, x.possessed); got != x.r {
			t.Error(x, got)
		}
	}
	do(t, v, 0, api.Deed{Kind: api.DeedInvalidate, Key: k})
	gone(t, v, k)
	if v.Rights(0, k, true) != 0 || !slices.Equal(v.Name(k), nibble.Of(index(api.TypeUser, "k"))) {
		t.Error("a dead key has a name, and gives no rights")
	}
}

func TestLookStill(t *testing.T) { // P20.3
	v := fresh(t)
	r := install(t, v, api.SpecThread, 0)
	k := add(t, v, r, index(api.TypeUser, "k"), "pay", 1)
	key := api.Seen{Kind: api.SeenKey, Serial: k, Is: true, Ver: 1, Life: api.LifeLive}
	content := api.Seen{Kind: api.SeenContent, Serial: r, Is: true, Ver: 2}
	cell := api.Seen{Kind: api.SeenCell, Serial: api.SpecThread, Is: true, Holds: r, Ver: 2}
	for _, x := range []api.Seen{key, content, cell, {Kind: api.SeenKey, Serial: 9}, {Kind: api.SeenContent, Serial: 9}, {Kind: api.SeenCell, Task: 1, Serial: api.SpecUser, Ver: 1}} {
		if y := v.Look(x); y != x {
			t.Error(x, y)
		}
		z := api.Seen{Kind: x.Kind, Serial: x.Serial, Task: x.Task, Is: !x.Is, Holds: 77, Ver: 99, Life: 9}
		if y := v.Look(z); y != x {
			t.Error("whatever else it says", y)
		}
	}
	for _, x := range []api.Seen{{}, {Kind: 7, Serial: 1, Ver: 3}, {Kind: api.SeenKey, Ver: 3}, {Kind: api.SeenKey, Serial: k, Task: 1}, {Kind: api.SeenCell, Serial: 5}, {Kind: api.SeenCell, Serial: api.SpecUser, Task: 9, Ver: 4}, {Kind: api.SeenCell, Serial: 0, Ver: 1}, {Kind: api.SeenCell, Serial: api.SpecThread - 4, Task: 1, Ver: 4}, {Kind: api.SeenCell, Serial: api.SpecThread, Task: -1, Ver: 4}, {Kind: api.SeenCell, Serial: api.SpecThread, Task: api.MaxTasks, Is: true, Holds: 3, Ver: 4}} {
		if y := v.Look(x); y != x {
			t.Error("as it is handed in", x, y)
		}
	}
	s := seen.New()
	for _, x := range []api.Seen{cell, key, content} {
		s.Note(x)
	}
	if !v.Still(s) || !v.Still(nil) {
		t.Error("still")
	}
	for i, d := range []api.Deed{{Kind: api.DeedPerm, Key: k}, {Kind: api.DeedClear, Ring: r}, {Kind: api.DeedInvalidate, Key: r}} {
		w := v.Copy()
		if do(t, w, 0, d); w.Still(s) {
			t.Error(i)
		}
	}
	w := v.Copy()
	do(t, w, 0, api.Deed{Kind: api.DeedExpiry, Key: k, Expiry: 2})
	if w.Look(key) != (api.Seen{Kind: api.SeenKey, Serial: k, Is: true, Ver: 2, Life: api.LifeLive}) {
		t.Error(w.Look(key))
	}
	w.Tick()
	w.Tick()
	if w.Look(key).Life != api.LifeExpired {
		t.Error(w.Look(key))
	}
	s.Note(api.Seen{Kind: api.SeenKey, Serial: k})
	if v.Still(s) {
		t.Error("broken")
	}
}

func TestLookOfNoTask(t *testing.T) { // P20.3: a cell of a task that may be is told as it is now, also where there is no such task
	v := fresh(t)
	install(t, v, api.SpecThread, 0)
	for _, spec := range []api.Serial{api.SpecThread, api.SpecProcess, api.SpecSession, api.SpecUser} {
		for task := v.Creds().Tasks(); task < api.MaxTasks; task++ {
			x := api.Seen{Kind: api.SeenCell, Serial: spec, Task: task}
			for _, z := range []api.Seen{x, {Kind: x.Kind, Serial: spec, Task: task, Ver: 1}, {Kind: x.Kind, Serial: spec, Task: task, Is: true, Holds: 1, Ver: 2}, {Kind: x.Kind, Serial: spec, Task: task, Holds: -3, Ver: 9, Life: 9}} {
				if y := v.Look(z); y != x {
					t.Error(z, y)
				}
			}
			s := seen.New()
			if s.Note(api.Seen{Kind: api.SeenCell, Serial: spec, Task: task, Ver: 1}) != api.OK || v.Still(s) {
				t.Error("a cell that there is not has no version", spec, task)
			}
		}
	}
}

func TestAddInstall(t *testing.T) { // P20.4
	v := fresh(t)
	r := install(t, v, api.SpecThread, 6)
	want := api.Record{Serial: 7, Index: index(api.TypeRing, "_r"), UID: 1, GID: 2, Perm: 0x3f030000, Refs: 1, Charge: 19, Ver: 1, Content: 1}
	if x := rec(t, v, r); x != want {
		t.Error(x)
	}
	if s, ver, _ := v.Creds().Cell(0, api.SpecThread); s != 7 || ver != 2 {
		t.Error(s, ver)
	}
	k := add(t, v, r, index(api.TypeLogon, "abc"), "some bytes, more than sixteen", 6)
	x := rec(t, v, k)
	want = api.Record{Serial: 8, Index: index(api.TypeLogon, "abc"), UID: 1, GID: 2, Perm: 0x3f010000, Size: 29, Payload: x.Payload, Refs: 1, In: 1, Charge: 33, Ver: 1, Content: 1}
	if x != want || text(v, k) != "some bytes, more than sixteen" {
		t.Error(x)
	}
	if x := rec(t, v, r); x.Content != 2 || x.Ver != 1 || x.Root.Serial != 8 {
		t.Error(x)
	}
	account(t, v, 1, 2, 52)
	l := add(t, v, r, index(api.TypeLogon, "abc"), "other", 6)
	if l != 9 || text(v, l) != "other" || v.Rcu().Len() != 1 {
		t.Error(l, v.Rcu().Len())
	}
	gone(t, v, k)
	account(t, v, 1, 2, 28)
	m := install(t, v, api.SpecThread, 6)
	gone(t, v, r, l)
	if m != 8 {
		t.Error("of the next one that is free", m)
	}
	account(t, v, 1, 1, 19)
	p := install(t, v, api.SpecProcess, 0)
	if _, is := v.Key(m); !is || p != 1 {
		t.Error("another cell")
	}
}

func TestUpdateRevoke(t *testing.T) { // P20.4
	v := fresh(t)
	r := install(t, v, api.SpecThread, 0)
	k := add(t, v, r, index(api.TypeUser, "k"), "some bytes, more than sixteen", 1)
	do(t, v, 1, api.Deed{Kind: api.DeedUpdate, Key: k, Payload: payload(t, v, "ab"), Size: 2})
	if x := rec(t, v, k); x.Size != 2 || x.Ver != 2 || x.Content != 2 || x.Charge != 4 || text(v, k) != "ab" {
		t.Error(x)
	}
	account(t, v, 1, 2, 23)
	account(t, v, 3, 0, 0)
	if l := v.Rcu().All(); len(l) != 1 || len(l[0].Extents) != 2 {
		t.Error(l)
	}
	do(t, v, 0, api.Deed{Kind: api.DeedRevoke, Key: k})
	if x := rec(t, v, k); !x.Revoked || x.Size != 0 || x.Payload.Gen != 0 || x.Charge != 2 || x.Ver != 3 || x.Content != 3 || text(v, k) != "" {
		t.Error(x)
	}
	account(t, v, 1, 2, 21)
	q := add(t, v, r, index(api.TypeRing, "q"), "", 2)
	a, b := add(t, v, q, index(api.TypeUser, "a"), "a", 3), add(t, v, q, index(api.TypeUser, "b"), "b", 4)
	n := v.Rcu().Len()
	do(t, v, 0, api.Deed{Kind: api.DeedRevoke, Key: q})
	gone(t, v, a, b)
	if x := rec(t, v, q); !x.Revoked || x.Root != (api.Link{}) || x.Charge != 18 || x.Ver != 2 || x.Content != 4 || v.Rcu().Len() != n+1 {
		t.Error(x)
	}
	if l := v.Rcu().All()[n]; len(l.Nodes) != 1 || len(l.Records) != 2 || len(l.Extents) != 2 {
		t.Error("all in one callback", l)
	}
}

func TestLinkUnlinkMove(t *testing.T) { // P20.4
	v := fresh(t)
	r := install(t, v, api.SpecThread, 0)
	q := add(t, v, r, index(api.TypeRing, "q"), "", 1)
	x := index(api.TypeUser, "k")
	k := add(t, v, r, x, "k", 2)
	do(t, v, 0, api.Deed{Kind: api.DeedLink, Key: k, Ring: q, A: in(t, v, q, x, k)})
	if y := rec(t, v, k); y.Refs != 2 || y.In != 2 || y.Ver != 1 || rec(t, v, q).Content != 2 {
		t.Error(y)
	}
	do(t, v, 0, api.Deed{Kind: api.DeedLink, Key: k, Ring: q, A: in(t, v, q, x, k)})
	if y := rec(t, v, k); y.Refs != 2 || y.In != 2 {
		t.Error("in the place of itself", y)
	}
	do(t, v, 0, api.Deed{Kind: api.DeedUnlink, Key: k, Ring: r, A: out(t, v, r, k)})
	if y := rec(t, v, k); y.Refs != 1 || y.In != 1 {
		t.Error(y)
	}
	l := add(t, v, r, x, "l", 3)
	do(t, v, 0, api.Deed{Kind: api.DeedLink, Key: l, Ring: q, A: in(t, v, q, x, l)})
	gone(t, v, k)
	do(t, v, 0, api.Deed{Kind: api.DeedUnlink, Key: l, Ring: r, A: out(t, v, r, l)})
	p := add(t, v, r, index(api.TypeRing, "p"), "", 4)
	do(t, v, 0, api.Deed{Kind: api.DeedMove, Key: l, Ring: q, To: p, A: out(t, v, q, l), B: in(t, v, p, x, l)})
	if y := rec(t, v, l); y.Refs != 1 || y.In != 1 || rec(t, v, q).Root != (api.Link{}) || rec(t, v, p).Root.Serial != l || rec(t, v, p).Content != 2 {
		t.Error(y)
	}
	m := add(t, v, q, x, "m", 6)
	do(t, v, 0, api.Deed{Kind: api.DeedInvalidate, Key: l})
	if _, is := v.Book().Get(l); !is {
		t.Error("a link is left")
	}
	n := v.Rcu().Len()
	do(t, v, 0, api.Deed{Kind: api.DeedMove, Key: m, Ring: q, To: p, A: out(t, v, q, m), B: in(t, v, p, x, m)})
	if _, is := v.Book().Get(l); is || rec(t, v, m).In != 1 || len(v.Rcu().All()[n].Records) != 1 {
		t.Error("who stood there is taken out")
	}
	do(t, v, 0, api.Deed{Kind: api.DeedClear, Ring: p})
	gone(t, v, m)
	if y := rec(t, v, p); y.Content != 4 || y.Ver != 1 || y.Root != (api.Link{}) {
		t.Error(y)
	}
}

func TestOthersAndDying(t *testing.T) { // P20.4
	v := fresh(t)
	r := install(t, v, api.SpecThread, 0)
	k := add(t, v, r, index(api.TypeUser, "k"), "kk", 1)
	do(t, v, 0, api.Deed{Kind: api.DeedPerm, Key: k, Perm: 0x3f3f3f3f})
	do(t, v, 0, api.Deed{Kind: api.DeedOwner, Key: k, UID: 3, GID: 9})
	account(t, v, 1, 1, 19)
	account(t, v, 3, 1, 4)
	do(t, v, 0, api.Deed{Kind: api.DeedOwner, Key: k, UID: 3, GID: 8})
	do(t, v, 0, api.Deed{Kind: api.DeedExpiry, Key: k, Expiry: 4})
	do(t, v, 0, api.Deed{Kind: api.DeedRestrict, Key: r, Restrict: 2})
	if x := rec(t, v, k); x.Perm != 0x3f3f3f3f || x.UID != 3 || x.GID != 8 || x.Expiry != 4 || x.Ver != 5 || x.Content != 1 || rec(t, v, r).Restrict != 2 || rec(t, v, r).Ver != 2 {
		t.Error(x)
	}
	q := add(t, v, r, index(api.TypeRing, "q"), "", 2)
	a := add(t, v, q, index(api.TypeUser, "a"), "a", 3)
	both := add(t, v, q, index(api.TypeUser, "both"), "b", 4)
	do(t, v, 0, api.Deed{Kind: api.DeedLink, Key: both, Ring: r, A: in(t, v, r, index(api.TypeUser, "both"), both)})
	n := v.Rcu().Len()
	do(t, v, 0, api.Deed{Kind: api.DeedInvalidate, Key: q})
	gone(t, v, q, a)
	if x, is := v.Book().Get(q); !is || !x.Dead || x.In != 1 || x.Refs != 1 || x.Content != 4 || x.Ver != 2 || rec(t, v, both).In != 1 {
		t.Error(x)
	}
	if x := v.Rcu().All()[n]; len(x.Records) != 1 || len(x.Nodes) != 1 || len(x.Extents) != 1 {
		t.Error(x)
	}
	do(t, v, 0, api.Deed{Kind: api.DeedSweep, Key: q, Ring: r, A: out(t, v, r, q)})
	if _, is := v.Book().Get(q); is {
		t.Error("swept")
	}
	do(t, v, 0, api.Deed{Kind: api.DeedInvalidate, Key: r})
	gone(t, v, r, k, both)
	if s, ver, _ := v.Creds().Cell(0, api.SpecThread); s != 0 || ver != 3 || v.Book().Len() != 0 {
		t.Error(s, ver)
	}
	account(t, v, 1, 0, 0)
	account(t, v, 3, 0, 0)
	v.Tick()
	for range 20 {
		if l := v.Tick(); len(l) != 0 {
			t.Error("a timer of who is dead", l)
		}
	}
	for v.Collect() {
	}
	if v.Book().Room() != 16 || v.Nodes().Room() != 100 || v.Extents().Room() != 50 {
		t.Error("room")
	}
}

func TestRefused(t *testing.T) { // P20.4
	v := fresh(t)
	r := install(t, v, api.SpecThread, 0)
	k := add(t, v, r, index(api.TypeUser, "k"), "kk", 1)
	for _, x := range []struct {
		task int
		d    api.Deed
		e    api.Errno
	}{
		{2, api.Deed{Kind: api.DeedPerm, Key: k}, api.ErrArg}, {-1, api.Deed{Kind: api.DeedPerm, Key: k}, api.ErrArg}, {0, api.Deed{Key: k}, api.ErrArg}, {0, api.Deed{Kind: 15, Key: k}, api.ErrArg}, {0, api.Deed{Kind: -1}, api.ErrArg}, {9, api.Deed{Kind: api.DeedPerm, Key: 9}, api.ErrArg},
		{0, api.Deed{Kind: api.DeedPerm, Key: 9}, api.ErrNone}, {0, api.Deed{Kind: api.DeedUpdate}, api.ErrNone}, {0, api.Deed{Kind: api.DeedAdd, Ring: 9}, api.ErrNone}, {0, api.Deed{Kind: api.DeedLink, Key: k, Ring: 9}, api.ErrNone}, {0, api.Deed{Kind: api.DeedLink, Key: 9, Ring: r}, api.ErrNone}, {0, api.Deed{Kind: api.DeedMove, Key: k, Ring: r, To: 9}, api.ErrNone}, {0, api.Deed{Kind: api.DeedClear, Ring: -3}, api.ErrNone}, {0, api.Deed{Kind: api.DeedSweep, Key: 9, Ring: r}, api.ErrNone}, {0, api.Deed{Kind: api.DeedUnlink, Key: k}, api.ErrNone},
	} {
		was := v.Copy()
		if n, e := v.Do(x.task, x.d); n != 0 || e != x.e || !v.Same(was) {
			t.Error(x, n, e)
		}
	}
	quota := func(task int, d api.Deed) {
		t.Helper()
		was := v.Copy()
		if n, e := v.Do(task, d); n != 0 || e != api.ErrQuota || !v.Same(was) {
			t.Error(d.Kind, n, e)
		}
		v.Undo(d)
	}
	big := string(make([]byte, 256))
	add(t, v, r, index(api.TypeBig, "b"), big[:200], 2)
	quota(0, addDeed(t, v, r, index(api.TypeBig, "c"), big, 3))
	quota(0, addDeed(t, v, r, index(api.TypeBig, "b"), big, 3))
	add(t, v, r, index(api.TypeBig, "d"), big[:100], 2)
	quota(0, api.Deed{Kind: api.DeedUpdate, Key: k, Payload: payload(t, v, big[:128]), Size: 128})
	for i := 5; i < 13; i++ {
		add(t, v, r, index(api.TypeUser, "n"+strconv.Itoa(i)), "1", uint64(i))
	}
	quota(0, addDeed(t, v, r, index(api.TypeUser, "n99"), "1", 3))
	quota(0, api.Deed{Kind: api.DeedInstall, Index: index(api.TypeRing, "_r"), Cell: api.SpecUser, Record: prepared(t, v)})
	u := v.Copy()
	for range 12 {
		u.Quota().Charge(3, 1, 0)
	}
	if _, e := u.Do(0, api.Deed{Kind: api.DeedOwner, Key: k, UID: 3}); e != api.ErrQuota {
		t.Error(e)
	}
}

func TestUndoTickCollect(t *testing.T) { // P20.5
	v := fresh(t)
	r := install(t, v, api.SpecThread, 0)
	add(t, v, r, index(api.TypeUser, "a"), "a", 1)
	was := v.Copy()
	d := addDeed(t, v, r, index(api.TypeUser, "b"), "bbbbbbbbbbbbbbbbbbbbb", 2)
	d.B = in(t, v, r, index(api.TypeUser, "c"), 2)
	if v.Undo(d) != api.OK || v.Book().Room() != was.Book().Room() || v.Nodes().Room() != was.Nodes().Room() || v.Extents().Room() != was.Extents().Room() || !v.Nodes().Zero() {
		t.Error("undo")
	}
	if v.Undo(d) != api.OK || v.Undo(api.Deed{}) != api.OK || v.Book().Len() != 2 {
		t.Error("what is not in use is let be")
	}
	q := add(t, v, r, index(api.TypeRing, "q"), "", 2)
	in1, in2 := add(t, v, q, index(api.TypeUser, "x"), "x", 3), add(t, v, q, index(api.TypeUser, "y"), "y", 4)
	for _, k := range []api.Serial{in1, q} {
		do(t, v, 0, api.Deed{Kind: api.DeedExpiry, Key: k, Expiry: 2})
	}
	do(t, v, 0, api.Deed{Kind: api.DeedExpiry, Key: r, Expiry: 30})
	do(t, v, 0, api.Deed{Kind: api.DeedExpiry, Key: r, Expiry: 0})
	n := v.Rcu().Len()
	for i := 1; i < 40; i++ {
		l := v.Tick()
		sound(t, v)
		if v.Now() != uint64(i) || (i == 7) != (len(l) > 0) {
			t.Error(i, l)
		}
		if i == 7 && (!slices.Equal(l, []api.Serial{q, in1}) || v.Rcu().Len() != n+1) {
			t.Error(l)
		}
	}
	gone(t, v, q, in1, in2)
	v.Rcu().Enter(0)
	do(t, v, 0, api.Deed{Kind: api.DeedInvalidate, Key: r})
	for v.Collect() {
	}
	if v.Rcu().Len() != 1 || v.Collect() {
		t.Error("somebody is inside")
	}
	v.Rcu().Leave(0)
	if !v.Collect() || v.Collect() || v.Book().Room() != 16 {
		t.Error("collect")
	}
}

func TestReserveViewCopySame(t *testing.T) { // P20.6
	v := fresh(t)
	if v.Reserve() != 16 {
		t.Error(v.Reserve())
	}
	r := install(t, v, api.SpecThread, 4)
	k := add(t, v, r, index(api.TypeUser, "k"), "kk", 1)
	l := add(t, v, r, index(api.TypeUser, "l"), "lll", 2)
	do(t, v, 0, api.Deed{Kind: api.DeedInvalidate, Key: l})
	v.Tick()
	w := v.View()
	if w.Now != 1 || len(w.Keys) != 3 || len(w.Accounts) != 16 || w.Accounts[1] != (api.Account{Keys: 2, Bytes: 23}) || w.Free != [3]int{13, 99, 48} || w.Retired != 1 {
		t.Error(w)
	}
	links := []api.Serial{k, l}
	if nibble.Less(index(api.TypeUser, "l"), index(api.TypeUser, "k")) {
		links = []api.Serial{l, k}
	}
	if x := w.Keys[2]; x.Record.Serial != r || !slices.Equal(x.Links, links) || x.Record.Root != (api.Link{}) || x.Payload != "" {
		t.Error(x)
	}
	if x := w.Keys[0]; x.Record.Serial != k || x.Payload != "kk" || x.Record.Payload.Gen != 0 || x.Record.Size != 2 || x.Links != nil {
		t.Error(x)
	}
	if x := w.Keys[1]; !x.Record.Dead || x.Payload != "" {
		t.Error(x)
	}
	for i, f := range []func(v *vault.Vault){
		func(v *vault.Vault) { v.Tick() }, func(v *vault.Vault) { v.Collect() }, func(v *vault.Vault) { v.Nodes().Alloc() }, func(v *vault.Vault) { v.Extents().Alloc() }, func(v *vault.Vault) { v.Book().Prepare() },
		func(v *vault.Vault) { v.Quota().Charge(0, 0, 1) }, func(v *vault.Vault) { v.Creds().Put(0, api.SpecUser, 0) }, func(v *vault.Vault) { v.Rcu().Enter(0) }, func(v *vault.Vault) { v.Locks().Try(0, 0) },
		func(v *vault.Vault) { do(t, v, 0, api.Deed{Kind: api.DeedInvalidate, Key: k}) },
	} {
		was, o := v.Copy(), v.Copy()
		if !v.Same(o) || !o.Same(v) {
			t.Error("copy")
		}
		if f(o); v.Same(o) || !v.Same(was) {
			t.Error(i)
		}
	}
	for i, f := range []func(c *api.Config){func(c *api.Config) { c.Bytes++ }, func(c *api.Config) { c.Creds[1].GID++ }, func(c *api.Config) { c.Nodes++ }} {
		c := config()
		f(&c)
		a, _ := vault.New(c)
		b, _ := vault.New(config())
		if a.Same(b) || !a.Same(a.Copy()) {
			t.Error("configuration", i)
		}
	}
}

func TestFollows(t *testing.T) { // P20.7
	for seed := 1; seed <= 12; seed++ {
		v := fresh(t)
		x := seed * 7919
		pick := func(n int) int {
			x = x*1103515245 + 12345
			return (x >> 16 & 0x7fff) % n
		}
		var rings, keys []api.Serial
		look := func() {
			rings, keys = nil, nil
			for r := range v.Book().All() {
				if !r.Dead && types.IsRing(r.Index.Type) {
					rings = append(rings, r.Serial)
				} else if !r.Dead {
					keys = append(keys, r.Serial)
				}
			}
		}
		for i := 0; i < 150; i++ {
			look()
			if len(rings) == 0 {
				install(t, v, api.SpecThread, uint64(i))
				continue
			}
			ring := rings[pick(len(rings))]
			links, _, _ := walk.All(v.Nodes(), rec(t, v, ring).Root)
			d := index(api.TypeUser, "k"+strconv.Itoa(pick(5)))
			var deed api.Deed
			switch op := pick(14); {
			case op < 6 && v.Book().Room() == 0:
				deed = api.Deed{Kind: api.DeedClear, Ring: ring}
			case op < 4:
				deed = addDeed(t, v, ring, d, string(make([]byte, 1+pick(40))), uint64(pick(30)))
			case op == 4:
				q := index(api.TypeRing, "q"+strconv.Itoa(i))
				deed = addDeed(t, v, rings[0], q, "", uint64(pick(30)))
			case op == 5:
				deed = api.Deed{Kind: api.DeedInstall, Index: index(api.TypeRing, "_x"), Cell: api.Serial(-1 - pick(4)), Record: prepared(t, v), Draw: uint64(pick(30))}
			case len(keys) == 0:
				continue
			case op == 6:
				k := keys[pick(len(keys))]
				deed = api.Deed{Kind: api.DeedLink, Key: k, Ring: ring, A: in(t, v, ring, rec(t, v, k).Index, k)}
			case op == 7 && len(links) > 0:
				k := links[pick(len(links))]
				kind := api.DeedUnlink
				if _, is := v.Key(k); !is {
					kind = api.DeedSweep
				}
				deed = api.Deed{Kind: kind, Key: k, Ring: ring, A: out(t, v, ring, k)}
			case op == 8:
				k := keys[pick(len(keys))]
				p := string(make([]byte, 1+pick(60)))
				deed = api.Deed{Kind: api.DeedUpdate, Key: k, Payload: payload(t, v, p), Size: len(p)}
			case op == 9:
				deed = api.Deed{Kind: api.DeedOwner, Key: keys[pick(len(keys))], UID: pick(4)}
			case op == 10:
				deed = api.Deed{Kind: api.DeedExpiry, Key: keys[pick(len(keys))], Expiry: v.Now() + uint64(pick(3))}
			case op == 11:
				deed = api.Deed{Kind: []api.DeedKind{api.DeedRevoke, api.DeedInvalidate, api.DeedClear}[pick(3)], Key: keys[pick(len(keys))], Ring: ring}
			case op == 12:
				v.Tick()
				sound(t, v)
				continue
			default:
				for v.Collect() {
				}
				continue
			}
			was := v.Copy()
			if _, e := v.Do(0, deed); e != api.OK {
				if e != api.ErrQuota || !v.Same(was) {
					t.Fatal(deed.Kind, e)
				}
				v.Undo(deed)
			}
			sound(t, v)
			for v.Collect() {
			}
		}
	}
}

func TestNamedKeys(t *testing.T) { // P20.4: who is named has to be in the book
	v := fresh(t)
	r := install(t, v, api.SpecThread, 0)
	k := add(t, v, r, index(api.TypeUser, "k"), "kk", 1)
	type names struct{ key, ring, to bool }
	for kind, n := range map[api.DeedKind]names{
		api.DeedAdd: {ring: true}, api.DeedUpdate: {key: true}, api.DeedLink: {key: true, ring: true}, api.DeedUnlink: {key: true, ring: true}, api.DeedMove: {true, true, true}, api.DeedClear: {ring: true}, api.DeedPerm: {key: true},
		api.DeedOwner: {key: true}, api.DeedExpiry: {key: true}, api.DeedRevoke: {key: true}, api.DeedInvalidate: {key: true}, api.DeedRestrict: {key: true}, api.DeedSweep: {key: true, ring: true},
	} {
		for i, missing := range []bool{n.key, n.ring, n.to} {
			d := api.Deed{Kind: kind, Key: k, Ring: r, To: r}
			*[]*api.Serial{&d.Key, &d.Ring, &d.To}[i] = 99
			if !missing {
				continue
			}
			was := v.Copy()
			if n, e := v.Do(0, d); n != 0 || e != api.ErrNone || !v.Same(was) {
				t.Error(kind, i, n, e)
			}
		}
	}
}

func TestLeastAndMost(t *testing.T) { // P20.1, P20.6
	c := api.Config{Creds: []api.Cred{{}}, Keys: 1, Nodes: 1, Extents: 1}
	v, e := vault.New(c)
	if e != api.OK || v.Reserve() != 1 {
		t.Error(e)
	}
	c = api.Config{Creds: make([]api.Cred, 8), Keys: 64, Nodes: 512, Extents: 512, Count: api.MaxLimit, Bytes: api.MaxLimit}
	if w, e := vault.New(c); e != api.OK || w.Reserve() != 64 || len(w.View().Accounts) != 16 {
		t.Error(e)
	}
	for i, f := range []func(c *api.Config){func(c *api.Config) { c.Keys++ }, func(c *api.Config) { c.Nodes++ }, func(c *api.Config) { c.Extents++ }, func(c *api.Config) { c.Count++ }, func(c *api.Config) { c.Bytes++ }, func(c *api.Config) { c.Creds = append(c.Creds, api.Cred{}) }} {
		d := v.Config()
		f(&d)
		if w, _ := vault.New(d); w.Same(v) || v.Same(w) {
			t.Error(i)
		}
	}
}
