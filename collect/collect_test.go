package collect_test

import (
	"slices"
	"strconv"
	"testing"

	"warder/api"
	"warder/call"
	"warder/collect"
	"warder/request"
	"warder/vault"
)

type world struct {
	*vault.Vault
	t    *testing.T
	draw uint64
}

func build(t *testing.T, nodes int) *world {
	t.Helper()
	v, e := vault.New(api.Config{Creds: []api.Cred{{UID: 1}, {UID: 1, Proc: 1}}, Keys: 12, Nodes: nodes, Extents: 60, Count: 100, Bytes: 5000})
	if e != api.OK {
		t.Fatal(e)
	}
	return &world{Vault: v, t: t}
}

func (w *world) do(c api.Call) api.Serial {
	w.t.Helper()
	b, _ := request.Bytes(c)
	x, e := call.Begin(w.Vault, 0, b, w.draw)
	w.draw++
	for e == api.OK && !x.Done() {
		_, e = x.Step()
	}
	if e != api.OK || x.Response().Code != api.OK {
		w.t.Fatal(c, e, x.Response())
	}
	return api.Serial(x.Response().Value)
}

func (w *world) add(in api.Serial, k api.KeyType, d string) api.Serial {
	w.t.Helper()
	c := api.Call{Op: api.OpAdd, Ring: in, Index: api.Index{Type: k, Desc: d}, Payload: "pay"}
	if k == api.TypeRing {
		c.Payload = ""
	}
	return w.do(c)
}

func (w *world) dies(l ...api.Serial) {
	w.t.Helper()
	for _, s := range l {
		w.do(api.Call{Op: api.OpInvalidate, Key: s})
	}
}

func (w *world) session() api.Serial {
	w.t.Helper()
	return w.do(api.Call{Op: api.OpGet, Key: api.SpecSession, Create: true})
}

func (w *world) step(kind api.CollectKind, ring, key api.Serial) {
	w.t.Helper()
	if x, e := collect.Step(w.Vault); x != (api.Collected{Kind: kind, Ring: ring, Key: key}) || e != api.OK {
		w.t.Error(x, e)
	}
}

func (w *world) left(callbacks, links int) {
	w.t.Helper()
	if c, l := collect.Left(w.Vault); c != callbacks || l != links || collect.Calm(w.Vault) != (c+l == 0) {
		w.t.Error(c, l)
	}
}

func TestStep(t *testing.T) { // P24.1
	w := build(t, 100)
	r := w.session()
	a := w.add(r, api.TypeUser, "a")
	w.add(r, api.TypeUser, "b")
	w.dies(a)
	w.left(1, 1)
	was, _ := w.Key(r)
	w.step(api.CollectFrees, 0, 0)
	w.step(api.CollectSweeps, r, a)
	if now, _ := w.Key(r); now.Content != was.Content+1 || now.Ver != was.Ver {
		t.Error(now)
	}
	w.left(1, 0)
	w.step(api.CollectFrees, 0, 0)
	w.step(api.CollectNone, 0, 0)
	if w.Nodes().Len() != 0 || w.Extents().Len() != 1 || w.Book().Room() != 10 {
		t.Error("left in use")
	}
	for _, v := range []*vault.Vault{nil, {}} {
		if x, e := collect.Step(v); x != (api.Collected{}) || e != api.ErrNil {
			t.Error(e)
		}
		if c, l := collect.Left(v); c != 0 || l != 0 || len(collect.All(v, 9)) != 0 {
			t.Error("nil")
		}
	}
}

func TestWhichLink(t *testing.T) { // P24.1
	w := build(t, 100)
	r := w.session()
	p, q := w.add(r, api.TypeRing, "p"), w.add(r, api.TypeRing, "q")
	var in []api.Serial
	for _, ring := range []api.Serial{q, p, r} {
		in = append(in, w.add(ring, api.TypeUser, "k"), w.add(ring, api.TypeUser, "l"))
	}
	w.dies(in...)
	if _, l := collect.Left(w.Vault); l != 6 {
		t.Error(l)
	}
	var want []api.Collected
	for _, ring := range []api.Serial{r, p, q} {
		for _, k := range w.View().Keys {
			if k.Record.Serial == ring {
				for _, s := range k.Links {
					if slices.Contains(in, s) {
						want = append(want, api.Collected{Kind: api.CollectSweeps, Ring: ring, Key: s})
					}
				}
			}
		}
	}
	for w.Collect() {
	}
	w.Locks().Try(1, 0)
	w.step(api.CollectNone, 0, 0)
	w.Locks().Drop(1)
	w.Locks().Try(1, r)
	w.step(api.CollectSweeps, want[2].Ring, want[2].Key)
	w.step(api.CollectFrees, 0, 0)
	w.Locks().Drop(1)
	w.Rcu().Enter(1)
	for i, x := range want {
		if i != 2 {
			w.step(api.CollectSweeps, x.Ring, x.Key)
		}
	}
	w.step(api.CollectNone, 0, 0)
	w.left(5, 0)
	w.Rcu().Leave(1)
	if l := collect.All(w.Vault, 99); len(l) != 5 || !collect.Calm(w.Vault) {
		t.Error(l)
	}
}

func TestNodesLack(t *testing.T) { // P24.1: one for which nodes lack is passed over
	w := build(t, 30)
	r := w.session()
	q := w.add(r, api.TypeRing, "q")
	var in []api.Serial
	for i := range 3 {
		in = append(in, w.add(r, api.TypeUser, "u"+strconv.Itoa(i)))
	}
	k := w.add(q, api.TypeUser, "k")
	l := w.add(q, api.TypeUser, "l")
	w.dies(in...)
	w.dies(k)
	for w.Collect() {
	}
	for {
		if _, e := w.Nodes().Alloc(); e != api.OK {
			break
		}
	}
	w.step(api.CollectSweeps, q, k)
	if now, _ := w.Key(q); now.Root.Serial != l {
		t.Error(now.Root)
	}
	w.step(api.CollectFrees, 0, 0)
	if n := w.Nodes().Room(); n != 1 {
		t.Error(n)
	}
}

func TestAll(t *testing.T) { // P24.2
	w := build(t, 100)
	r := w.session()
	a := w.add(r, api.TypeUser, "a")
	w.add(r, api.TypeUser, "b")
	w.dies(a)
	for most, n := range map[int]int{-1: 0, 0: 0, 2: 2, 3: 3, 4: 3, 99: 3} {
		v := w.Copy()
		if l := collect.All(v, most); len(l) != n || slices.Contains(l, api.Collected{}) {
			t.Error(most, l)
		}
		if c, l := collect.Left(v); n == 3 && c+l != 0 || n < 3 && c+l == 0 {
			t.Error(c, l)
		}
	}
}

func TestCalmAtLast(t *testing.T) { // P24.3
	w := build(t, 300)
	r := w.session()
	rings := []api.Serial{r}
	var keys []api.Serial
	for i := range 9 {
		in := rings[i%len(rings)]
		if i%3 == 0 {
			rings = append(rings, w.add(in, api.TypeRing, "r"+strconv.Itoa(i)))
		} else {
			keys = append(keys, w.add(in, api.TypeUser, "k"+strconv.Itoa(i)))
		}
	}
	for _, k := range keys {
		for _, in := range rings[1:3] {
			w.do(api.Call{Op: api.OpLink, Key: k, Ring: in})
		}
	}
	w.dies(keys[1], keys[3], rings[2])
	links, before := 0, w.View()
	for _, k := range before.Keys {
		links += len(k.Links)
	}
	callbacks, _ := collect.Left(w.Vault)
	collect.All(w.Vault, 3*links+callbacks)
	if !collect.Calm(w.Vault) {
		t.Error(collect.Left(w.Vault))
	}
	after := w.View()
	alive := map[api.Serial]api.KeyView{}
	for _, k := range after.Keys {
		if k.Record.Dead {
			t.Error("a dead key that nothing leads to", k)
		}
		alive[k.Record.Serial] = k
	}
	for _, k := range before.Keys {
		if k.Record.Dead {
			continue
		}
		var links []api.Serial
		for _, s := range k.Links {
			if _, is := alive[s]; is {
				links = append(links, s)
			}
		}
		now := alive[k.Record.Serial]
		now.Record.Content = k.Record.Content
		if now.Record != k.Record || now.Payload != k.Payload || !slices.Equal(now.Links, links) {
			t.Error(k, now)
		}
	}
}
