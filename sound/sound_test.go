package sound_test

import (
	"slices"
	"testing"

	"warder/api"
	"warder/call"
	"warder/extent"
	"warder/node"
	"warder/request"
	"warder/sound"
	"warder/vault"
)

func config() api.Config {
	return api.Config{Creds: []api.Cred{{UID: 1}, {UID: 2, Proc: 1}}, Keys: 20, Nodes: 90, Extents: 90, Count: 20, Bytes: 2000}
}

type world struct {
	*vault.Vault
	t    *testing.T
	draw uint64
}

func (w *world) do(c api.Call) api.Serial {
	w.t.Helper()
	b, _ := request.Bytes(c)
	x, e := call.Begin(w.Vault, 0, b, w.draw)
	w.draw++
	for e == api.OK && !x.Done() {
		_, e = x.Step()
	}
	if e != api.OK || x.Response().Code != api.OK {
		w.t.Fatal(c, e, x.Response())
	}
	return api.Serial(x.Response().Value)
}

func (w *world) add(in api.Serial, k api.KeyType, d, p string) api.Serial {
	w.t.Helper()
	return w.do(api.Call{Op: api.OpAdd, Ring: in, Index: api.Index{Type: k, Desc: d}, Payload: p})
}

// build has a session r (1) of user keys a (2), b (3) and a keyring q (4) with c (5), and a dead key d (6) that is linked in r.
func build(t *testing.T) *world {
	t.Helper()
	v, e := vault.New(config())
	if e != api.OK {
		t.Fatal(e)
	}
	w := &world{Vault: v, t: t}
	r := w.do(api.Call{Op: api.OpGet, Key: api.SpecSession, Create: true})
	w.add(r, api.TypeUser, "a", "some bytes, more than sixteen")
	w.add(r, api.TypeUser, "b", "b")
	q := w.add(r, api.TypeRing, "q", "")
	w.add(q, api.TypeUser, "c", "c")
	w.do(api.Call{Op: api.OpInvalidate, Key: w.add(r, api.TypeUser, "d", "d")})
	return w
}

func (w *world) set(s api.Serial, how func(r *api.Record)) {
	w.t.Helper()
	r, _ := w.Book().Get(s)
	how(&r)
	if e := w.Book().Set(s, r); e != api.OK {
		w.t.Fatal(e)
	}
}

func (w *world) root(s api.Serial) api.Handle {
	r, _ := w.Book().Get(s)
	return r.Root.Node
}

func rule(r api.Rule, s api.Serial, which int) api.Unsound {
	return api.Unsound{Rule: r, Serial: s, Which: which}
}

func broken(t *testing.T, how func(w *world), want ...api.Unsound) {
	t.Helper()
	w := build(t)
	if l := sound.Check(w.Vault, true); len(l) > 0 {
		t.Fatal("at first", l)
	}
	how(w)
	if l := sound.Check(w.Vault, true); !slices.Equal(l, want) {
		t.Error(l)
	}
}

func TestRules(t *testing.T) { // P29.1
	broken(t, func(w *world) {})
	broken(t, func(w *world) { w.set(1, func(r *api.Record) { r.Refs = 7 }) }, rule(api.RuleRefs, 1, 0))
	broken(t, func(w *world) { w.set(2, func(r *api.Record) { r.In++ }) }, rule(api.RuleRefs, 2, 0))
	broken(t, func(w *world) { w.set(6, func(r *api.Record) { r.Refs++ }) }, rule(api.RuleRefs, 6, 0))
	broken(t, func(w *world) { w.Creds().Put(1, api.SpecUser, 4) }, rule(api.RuleRefs, 4, 0))
	broken(t, func(w *world) { w.set(3, func(r *api.Record) { r.Root = node.Key(2) }) }, rule(api.RuleTrie, 3, 0))
	broken(t, func(w *world) { w.set(6, func(r *api.Record) { r.Root = node.Key(2) }) }, rule(api.RuleTrie, 6, 0))
	broken(t, func(w *world) { w.set(4, func(r *api.Record) { r.Root = node.Key(99) }) }, rule(api.RuleTrie, 4, 0), rule(api.RuleRefs, 5, 0))
	broken(t, func(w *world) { w.set(4, func(r *api.Record) { r.Root = api.Link{} }) }, rule(api.RuleRefs, 5, 0))
	broken(t, func(w *world) { w.set(4, func(r *api.Record) { r.Root = api.Link{Kind: 7} }) }, rule(api.RuleTrie, 4, 0), rule(api.RuleRefs, 5, 0))
	broken(t, func(w *world) { w.set(3, func(r *api.Record) { r.Size = 2 }) }, rule(api.RulePayload, 3, 0), rule(api.RuleUsed, 0, 2))
	broken(t, func(w *world) { w.set(1, func(r *api.Record) { r.Size = 2 }) }, rule(api.RulePayload, 1, 0))
	broken(t, func(w *world) { w.set(3, func(r *api.Record) { r.Charge++ }) }, rule(api.RuleAccount, 0, 1))
	broken(t, func(w *world) { w.Quota().Charge(1, 0, 1) }, rule(api.RuleAccount, 0, 1))
	broken(t, func(w *world) { w.Quota().Charge(5, 1, 0) }, rule(api.RuleAccount, 0, 5))
	broken(t, func(w *world) { w.set(3, func(r *api.Record) { r.UID = 16 }) }, rule(api.RuleDead, 3, 0), rule(api.RuleAccount, 0, 1))
	broken(t, func(w *world) { w.set(6, func(r *api.Record) { r.Size, r.Charge = 1, 1 }) }, rule(api.RuleDead, 6, 0))
	broken(t, func(w *world) { w.set(6, func(r *api.Record) { r.Payload = api.Handle{Index: 60, Gen: 1} }) }, rule(api.RuleDead, 6, 0))
	broken(t, func(w *world) { w.set(6, func(r *api.Record) { r.In = 0 }) }, rule(api.RuleRefs, 6, 0), rule(api.RuleDead, 6, 0))
	broken(t, func(w *world) { w.set(5, func(r *api.Record) { r.Refs = 0 }) }, rule(api.RuleRefs, 5, 0), rule(api.RuleDead, 5, 0))
	broken(t, func(w *world) { w.Book().Prepare() }, rule(api.RuleUsed, 0, 0))
	broken(t, func(w *world) { w.Nodes().Alloc(); w.Extents().Alloc() }, rule(api.RuleUsed, 0, 1), rule(api.RuleUsed, 0, 2))
	broken(t, func(w *world) { w.Rcu().Enter(1) }, rule(api.RuleLeft, 0, 1))
	broken(t, func(w *world) { w.Locks().Try(0, 4); w.Rcu().Enter(1) }, rule(api.RuleLeft, 0, 0), rule(api.RuleLeft, 0, 1))
	w := build(t)
	w.Rcu().Enter(1)
	w.Book().Prepare()
	w.Nodes().Alloc()
	if l := sound.Check(w.Vault, false); len(l) > 0 {
		t.Error("looked at only where all is calm", l)
	}
	for _, v := range []*vault.Vault{nil, {}} {
		if l := sound.Check(v, true); len(l) > 0 {
			t.Error("nil")
		}
	}
}

func TestTriesAndSlots(t *testing.T) { // P29.1
	broken(t, func(w *world) {
		n, _ := w.Nodes().Get(w.root(1))
		n.Depth++
		w.Nodes().Set(w.root(1), n)
	}, rule(api.RuleTrie, 1, 0), rule(api.RuleRefs, 2, 0), rule(api.RuleRefs, 3, 0), rule(api.RuleRefs, 4, 0), rule(api.RuleRefs, 6, 0), rule(api.RuleUsed, 0, 1))
	broken(t, func(w *world) {
		n, _ := w.Nodes().Get(w.root(1))
		for i, k := range n.Kids {
			if k.Kind != api.LinkNone {
				n = node.With(node.With(n, i, api.Link{}), (i+1)%16, k)
				break
			}
		}
		w.Nodes().Set(w.root(1), n)
	}, rule(api.RuleTrie, 1, 0), rule(api.RuleRefs, 2, 0), rule(api.RuleRefs, 3, 0), rule(api.RuleRefs, 4, 0), rule(api.RuleRefs, 6, 0), rule(api.RuleUsed, 0, 1))
	broken(t, func(w *world) { w.Nodes().Free(w.root(1)) }, rule(api.RuleTrie, 1, 0), rule(api.RuleRefs, 2, 0), rule(api.RuleRefs, 3, 0), rule(api.RuleRefs, 4, 0), rule(api.RuleRefs, 6, 0), rule(api.RuleUsed, 0, 1))
	broken(t, func(w *world) {
		root := w.root(1)
		w.set(4, func(r *api.Record) { r.Root = node.To(root) })
	}, rule(api.RuleOnce, 0, 1), rule(api.RuleRefs, 2, 0), rule(api.RuleRefs, 3, 0), rule(api.RuleRefs, 4, 0), rule(api.RuleRefs, 5, 0), rule(api.RuleRefs, 6, 0), rule(api.RuleLoop, 4, 0))
	broken(t, func(w *world) {
		b, _ := w.Book().Get(3)
		w.set(5, func(r *api.Record) { r.Payload = b.Payload })
	}, rule(api.RuleOnce, 0, 2), rule(api.RuleUsed, 0, 2))
	broken(t, func(w *world) {
		r, _ := w.Book().Get(3)
		w.Extents().Free(r.Payload)
	}, rule(api.RulePayload, 3, 0))
	broken(t, func(w *world) {
		l, _ := extent.Chain(w.Extents(), func() api.Handle { r, _ := w.Book().Get(2); return r.Payload }())
		x, _ := w.Extents().Get(l[0])
		x.Next = api.Handle{}
		w.Extents().Set(l[0], x)
	}, rule(api.RulePayload, 2, 0), rule(api.RuleUsed, 0, 2))
	broken(t, func(w *world) { w.set(4, func(r *api.Record) { r.Root = node.Key(1) }) }, rule(api.RuleRefs, 1, 0), rule(api.RuleRefs, 5, 0), rule(api.RuleLoop, 1, 0), rule(api.RuleLoop, 4, 0))
	broken(t, func(w *world) { w.set(4, func(r *api.Record) { r.Root = node.Key(4) }) }, rule(api.RuleRefs, 4, 0), rule(api.RuleRefs, 5, 0), rule(api.RuleLoop, 4, 0))
}

func TestNames(t *testing.T) { // P29.1
	names := []string{"?", "zero", "trie", "payload", "once", "refs", "dead", "account", "loop", "used", "left", "?"}
	for i, s := range names {
		if sound.Name(api.Rule(i)) != s {
			t.Error(i, sound.Name(api.Rule(i)))
		}
	}
	if sound.Name(-1) != "?" {
		t.Error("?")
	}
	for s, x := range map[string]api.Unsound{"refs 7": rule(api.RuleRefs, 7, 0), "zero 0": rule(api.RuleZero, 0, 0), "once 2": rule(api.RuleOnce, 0, 2), "trie 5": rule(api.RuleTrie, 5, 3), "? 4": {Which: 4}} {
		if sound.Text(x) != s {
			t.Error(sound.Text(x))
		}
	}
}

func TestRun(t *testing.T) { // P29.2, P29.3
	get, _ := request.Bytes(api.Call{Op: api.OpGet, Key: api.SpecSession, Create: true})
	s := api.Script{Config: config(), Requests: []api.Request{{Bytes: string(get)}, {Task: 1, Bytes: "?"}}}
	for i := range 30 {
		s.Acts = append(s.Acts, api.Act{Kind: api.ActKind(i % 5), Task: i % 4})
	}
	if at, l, e := sound.Run(s); at != -1 || l != nil || e != api.OK {
		t.Error(at, l, e)
	}
	bad := s
	bad.Config.Keys = 0
	if at, l, e := sound.Run(bad); at != 0 || l != nil || e != api.ErrArg {
		t.Error(at, l, e)
	}
	bad = s
	bad.Requests = []api.Request{{Task: 2}}
	if _, _, e := sound.Run(bad); e != api.ErrArg {
		t.Error(e)
	}
	bad.Requests = make([]api.Request, api.MaxScript+1)
	if _, _, e := sound.Run(bad); e != api.ErrLong {
		t.Error(e)
	}
	bad = s
	bad.Acts = make([]api.Act, api.MaxScript+1)
	if _, _, e := sound.Run(bad); e != api.ErrLong {
		t.Error(e)
	}
}

func TestWaiting(t *testing.T) { // P29.1: what waits in the row is somebody's
	broken(t, func(w *world) {
		w.do(api.Call{Op: api.OpUnlink, Key: 3, Ring: 1})
		if w.Rcu().Len() == 0 {
			t.Error("nothing waits")
		}
	})
	broken(t, func(w *world) {
		w.do(api.Call{Op: api.OpUnlink, Key: 3, Ring: 1})
		for w.Rcu().Ripe() {
			w.Rcu().Next()
		}
	}, rule(api.RuleUsed, 0, 0), rule(api.RuleUsed, 0, 1), rule(api.RuleUsed, 0, 2))
	broken(t, func(w *world) {
		w.Rcu().Retire(api.Retired{Records: []api.Handle{{Index: 19, Gen: 4}}, Nodes: []api.Handle{{Index: 80, Gen: 4}}, Extents: []api.Handle{{Index: 80, Gen: 4}}})
	}, rule(api.RuleUsed, 0, 0), rule(api.RuleUsed, 0, 1), rule(api.RuleUsed, 0, 2))
}

func TestTypesThatAreNone(t *testing.T) { // P29.1
	broken(t, func(w *world) {
		h, _ := w.Book().Prepare()
		w.Book().Publish(h, api.Record{Serial: 9, Index: api.Index{Type: 9, Desc: "x"}, UID: 7, Refs: 1})
		w.Creds().Put(1, api.SpecUser, 9)
		w.Quota().Charge(7, 1, 0)
	}, rule(api.RuleDead, 9, 0))
	broken(t, func(w *world) { w.set(3, func(r *api.Record) { r.UID = -1 }) }, rule(api.RuleDead, 3, 0), rule(api.RuleAccount, 0, 1))
	broken(t, func(w *world) { w.set(3, func(r *api.Record) { r.UID = 15 }) }, rule(api.RuleAccount, 0, 1), rule(api.RuleAccount, 0, 15))
}
