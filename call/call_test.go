package call_test

import (
	"slices"
	"strconv"
	"strings"
	"testing"

	"warder/api"
	"warder/call"
	"warder/request"
	"warder/vault"
)

type world struct {
	*vault.Vault
	t    *testing.T
	draw uint64
}

func build(t *testing.T, change ...func(c *api.Config)) *world {
	t.Helper()
	c := api.Config{Creds: []api.Cred{{UID: 1, GID: 1}, {UID: 2, GID: 1, Proc: 1}, {UID: 1, GID: 3, Proc: 2}, {}}, Keys: 30, Nodes: 200, Extents: 60, Count: 100, Bytes: 5000}
	for _, f := range change {
		f(&c)
	}
	v, e := vault.New(c)
	if e != api.OK {
		t.Fatal(e)
	}
	return &world{Vault: v, t: t}
}

func (w *world) begin(task int, c api.Call) *call.Call {
	w.t.Helper()
	b, e := request.Bytes(c)
	if e != api.OK {
		w.t.Fatal(c, e)
	}
	x, e := call.Begin(w.Vault, task, b, w.draw)
	if e != api.OK {
		w.t.Fatal(e)
	}
	w.draw++
	return x
}

// steps does steps till it is answered, and tells their phases.
func (w *world) steps(x *call.Call) string {
	w.t.Helper()
	names := strings.Fields("- decode begin resolve cells possess search below find read lock record extents nodes commit over")
	var l []string
	for n := 0; !x.Done(); n++ {
		phase := x.Phase()
		p, e := x.Step()
		if e != api.OK || p.Phase != phase || n > 500 {
			w.t.Fatal(p, e)
		}
		s := names[p.Phase]
		if p.Waits {
			s += "!"
		}
		if p.Failed {
			s += "?"
		}
		l = append(l, s)
	}
	return strings.Join(l, " ")
}

func (w *world) do(task int, c api.Call) api.Response {
	w.t.Helper()
	x := w.begin(task, c)
	w.steps(x)
	if w.Rcu().Depth(task) > 0 || len(w.Locks().Held(task)) > 0 {
		w.t.Error("left", task, w.Locks().Held(task))
	}
	return x.Response()
}

// calm: what was answered leaves nothing prepared, no lock and no section.
func (w *world) calm() {
	w.t.Helper()
	for task := range w.Creds().Tasks() {
		if w.Rcu().Depth(task) > 0 || len(w.Locks().Held(task)) > 0 {
			w.t.Error("left", task, w.Locks().Held(task))
		}
	}
	v := w.Copy()
	for v.Collect() {
	}
	if v.Book().Size()-v.Book().Room() != v.Book().Len() {
		w.t.Error("a slot is left prepared")
	}
}

func (w *world) must(task int, c api.Call) api.Serial {
	w.t.Helper()
	r := w.do(task, c)
	if r.Code != api.OK {
		w.t.Fatal(c, r)
	}
	return api.Serial(r.Value)
}

func (w *world) code(task int, c api.Call, e api.Errno) {
	w.t.Helper()
	was := w.View()
	if r := w.do(task, c); r != (api.Response{Code: e}) {
		w.t.Error(c, r)
	}
	if now := w.View(); e != api.OK && (len(now.Keys) != len(was.Keys) || now.Free != was.Free || !slices.Equal(now.Accounts, was.Accounts)) {
		w.t.Error("refused, and changed", c)
	}
}

func index(k api.KeyType, d string) api.Index { return api.Index{Type: k, Desc: d} }

func user(d string) api.Index { return index(api.TypeUser, d) }

func ring(d string) api.Index { return index(api.TypeRing, d) }

const session = api.SpecSession

func get(spec api.Serial) api.Call { return api.Call{Op: api.OpGet, Key: spec, Create: true} }

func add(in api.Serial, x api.Index, p string) api.Call {
	return api.Call{Op: api.OpAdd, Ring: in, Index: x, Payload: p}
}

func read(s api.Serial) api.Call { return api.Call{Op: api.OpRead, Key: s} }

func link(s, in api.Serial) api.Call { return api.Call{Op: api.OpLink, Key: s, Ring: in} }

func unlink(s, in api.Serial) api.Call { return api.Call{Op: api.OpUnlink, Key: s, Ring: in} }

func move(s, from, to api.Serial) api.Call {
	return api.Call{Op: api.OpMove, Key: s, Ring: from, To: to}
}

func mask(s api.Serial, p api.Perm) api.Call { return api.Call{Op: api.OpSetPerm, Key: s, Perm: p} }

func on(o api.Op, s api.Serial) api.Call { return api.Call{Op: o, Key: s} }

func TestPhases(t *testing.T) { // P23.1
	w := build(t)
	is := func(task int, c api.Call, phases string, r api.Response) {
		t.Helper()
		x := w.begin(task, c)
		if s := w.steps(x); s != phases || x.Response() != r || x.Tries() != 0 {
			t.Errorf("%v: %s: %v", c, s, x.Response())
		}
		w.calm()
	}
	is(0, get(session), "decode begin resolve record commit", api.Response{Value: 1})
	is(0, get(session), "decode begin resolve commit", api.Response{Value: 1})
	is(0, read(99), "decode begin resolve commit", api.Response{Code: api.ErrNone})
	is(0, api.Call{Op: api.OpGet, Key: api.SpecUser}, "decode begin resolve commit", api.Response{Code: api.ErrNone})
	is(0, add(session, user("a"), "one"), "decode begin resolve find lock record extents nodes commit", api.Response{Value: 5})
	is(0, add(session, user("a"), strings.Repeat("x", 17)), "decode begin resolve find extents extents commit", api.Response{Value: 5})
	is(0, read(5), "decode begin resolve cells possess possess read read commit", api.Response{Value: 17, Bytes: strings.Repeat("x", 17)})
	is(0, read(1), "decode begin resolve cells read commit", api.Response{Value: 1, Bytes: "\x05\x00\x00\x00"})
	is(1, read(5), "decode begin resolve cells possess commit", api.Response{Code: api.ErrAccess})
	is(0, add(1, ring("r"), ""), "decode begin resolve cells find lock record nodes commit", api.Response{Value: 10})
	is(0, link(5, 10), "decode begin resolve cells possess possess resolve cells possess possess find lock nodes commit", api.Response{})
	is(0, link(5, 10), "decode begin resolve cells possess possess resolve cells possess possess find commit", api.Response{})
	is(0, link(10, session), "decode begin resolve cells possess possess resolve below below find commit", api.Response{})
	is(0, link(session, 10), "decode begin resolve resolve cells possess possess below below below commit", api.Response{Code: api.ErrLoop})
	is(0, unlink(5, session), "decode begin resolve resolve find lock nodes commit", api.Response{})
	is(0, unlink(5, session), "decode begin resolve resolve find commit", api.Response{Code: api.ErrNone})
	is(0, move(5, 10, session), "decode begin resolve cells possess possess possess possess possess resolve cells possess possess resolve find find lock lock nodes nodes commit", api.Response{})
	is(0, api.Call{Op: api.OpRequest, Index: user("a")}, "decode begin cells search search commit", api.Response{Value: 5})
	is(0, api.Call{Op: api.OpSearch, Ring: session, Index: user("b")}, "decode begin resolve search search search search search search commit", api.Response{Code: api.ErrNone})
	is(0, on(api.OpDescribe, session), "decode begin resolve commit", api.Response{Bytes: "keyring;1;1;3f030000;_ses"})
	is(0, api.Call{Op: api.OpClear, Ring: 10}, "decode begin resolve cells possess possess lock commit", api.Response{})
	is(0, api.Call{Op: api.OpJoin, Index: ring("new")}, "decode begin resolve record commit", api.Response{Value: 22})
	if _, is := w.Key(1); is {
		t.Error("the elder session is there")
	}
}

func TestErrors(t *testing.T) { // P23.1
	w := build(t)
	for _, v := range []*vault.Vault{nil, {}} {
		if c, e := call.Begin(v, 9, nil, 0); c != nil || e != api.ErrNil {
			t.Error(e)
		}
	}
	for _, task := range []int{-1, 4} {
		if c, e := call.Begin(w.Vault, task, nil, 0); c != nil || e != api.ErrArg {
			t.Error(task, e)
		}
	}
	b := []byte{99, 1}
	c, e := call.Begin(w.Vault, 1, b, 0)
	if e != api.OK || c.Phase() != api.PhaseDecode || c.Done() || c.Task() != 1 {
		t.Error(e)
	}
	p, e := c.Step()
	if e != api.OK || p != (api.Progress{Phase: api.PhaseDecode, Done: true, Response: api.Response{Code: api.ErrArg}}) || !c.Done() || c.Phase() != api.PhaseOver {
		t.Error(p, e)
	}
	if p, e := c.Step(); p != (api.Progress{}) || e != api.ErrState {
		t.Error(p, e)
	}
	if _, is := c.Call(); is || c.Response().Code != api.ErrArg {
		t.Error("none's")
	}
	w.calm()
}

func TestLooks(t *testing.T) { // P23.2
	w := build(t)
	w.must(0, get(session))
	k := w.must(0, add(session, user("a"), "one"))
	x := w.begin(0, read(k))
	if _, is := x.Call(); is || len(x.Noted()) != 0 {
		t.Error("not taken apart yet")
	}
	noted := []int{0, 0, 1, 4, 6, 6, 6, 6}
	for i, n := range noted {
		x.Step()
		if len(x.Noted()) != n {
			t.Error(i, x.Noted())
		}
	}
	l := x.Noted()
	kinds := []api.SeenKind{1, 3, 3, 3, 1, 2}
	for i, y := range l {
		if y.Kind != kinds[i] {
			t.Error(l)
		}
	}
	if l[1].Serial != api.SpecThread || l[2].Serial != api.SpecProcess || l[3].Serial != session || l[3].Holds != 1 || l[0].Serial != k {
		t.Error(l)
	}
	if c, is := x.Call(); !is || c != read(k) || !x.Done() || x.Tries() != 0 || x.Response().Bytes != "one" || x.Task() != 0 {
		t.Error(c, x.Response())
	}
	for _, n := range []*call.Call{nil, {}} {
		p, e := n.Step()
		c, is := n.Call()
		if p != (api.Progress{}) || e != api.ErrNil || n.Phase() != 0 || n.Done() || n.Response() != (api.Response{}) || n.Tries() != 0 || n.Task() != 0 || c != (api.Call{}) || is || n.Noted() != nil {
			t.Error("nil")
		}
	}
}

func TestChecks(t *testing.T) { // P23.1: what each call is refused by, in order
	w := build(t)
	s := w.must(0, get(session))
	k := w.must(0, add(session, user("k"), "kk"))
	l := w.must(0, add(session, index(api.TypeLogon, "l"), "ll"))
	q := w.must(0, add(session, ring("q"), ""))
	w.code(0, add(k, user("x"), "x"), api.ErrKind)
	w.code(1, add(s, user("x"), "x"), api.ErrAccess)
	w.code(0, read(l), api.ErrKind)
	w.code(0, api.Call{Op: api.OpUpdate, Key: q, Payload: "x"}, api.ErrKind)
	w.code(0, api.Call{Op: api.OpUpdate, Key: l, Payload: strings.Repeat("x", 65)}, api.ErrArg)
	w.code(0, api.Call{Op: api.OpUpdate, Key: l, Payload: strings.Repeat("x", 64)}, api.OK)
	w.code(1, api.Call{Op: api.OpUpdate, Key: l, Payload: strings.Repeat("x", 65)}, api.ErrAccess)
	w.code(0, link(k, k), api.ErrKind)
	w.code(0, link(q, q), api.ErrLoop)
	w.code(1, link(k, s), api.ErrAccess)
	w.code(0, link(k, 99), api.ErrNone)
	w.code(1, link(99, s), api.ErrNone)
	w.code(1, link(k, 99), api.ErrNone)
	w.code(0, api.Call{Op: api.OpRestrict, Ring: q, Restrict: 1}, api.OK)
	w.code(0, api.Call{Op: api.OpRestrict, Ring: q, Restrict: 1}, api.ErrExists)
	w.code(0, api.Call{Op: api.OpRestrict, Ring: k, Restrict: 1}, api.ErrKind)
	w.code(0, add(q, ring("x"), ""), api.ErrPerm)
	w.code(0, link(l, q), api.ErrPerm)
	w.code(0, move(l, s, q), api.ErrPerm)
	w.code(0, move(k, q, s), api.ErrNone)
	w.code(0, move(k, s, s), api.OK)
	w.code(0, link(k, q), api.OK)
	w.code(0, move(k, s, q), api.ErrExists)
	w.code(0, unlink(l, q), api.ErrNone)
	w.code(1, unlink(l, s), api.ErrAccess)
	w.code(1, mask(k, 0), api.ErrAccess)
	w.code(2, mask(k, 0), api.ErrAccess)
	w.code(0, mask(k, 0x3f3f3f3f), api.OK)
	w.code(1, mask(k, 0), api.ErrAccess)
	w.code(2, mask(k, 0x3f3f3f3f), api.OK)
	w.code(3, mask(k, 0x3f3f3f3f), api.OK)
	w.code(2, api.Call{Op: api.OpChown, Key: k, UID: 2}, api.ErrAccess)
	w.code(2, api.Call{Op: api.OpChown, Key: k, UID: 1, GID: 9}, api.OK)
	w.code(1, api.Call{Op: api.OpChown, Key: k, UID: 2}, api.ErrAccess)
	w.code(3, api.Call{Op: api.OpChown, Key: k, UID: 2, GID: 5}, api.OK)
	if r := w.do(1, on(api.OpDescribe, k)); r.Bytes != "user;2;5;3f3f3f3f;k" {
		t.Error(r)
	}
	w.code(0, mask(l, 0x3f040000), api.OK)
	w.code(2, on(api.OpRevoke, l), api.OK)
	w.code(0, on(api.OpRevoke, l), api.ErrRevoked)
	w.code(0, read(l), api.ErrRevoked)
	w.code(0, on(api.OpDescribe, l), api.ErrRevoked)
	w.code(2, on(api.OpInvalidate, l), api.ErrAccess)
	w.code(0, on(api.OpInvalidate, l), api.OK)
	w.code(0, api.Call{Op: api.OpTimeout, Key: q, Time: 2}, api.OK)
	w.Tick()
	w.code(0, api.Call{Op: api.OpTimeout, Key: q, Time: 1 << 39}, api.OK)
	w.code(0, api.Call{Op: api.OpTimeout, Key: q}, api.OK)
	w.code(0, api.Call{Op: api.OpTimeout, Key: q, Time: 1}, api.OK)
	w.Tick()
	w.code(0, add(q, user("x"), "x"), api.ErrExpired)
	w.code(1, add(q, user("x"), "x"), api.ErrExpired)
	w.code(0, api.Call{Op: api.OpTimeout, Key: q}, api.ErrExpired)
	w.code(0, link(k, q), api.ErrExpired)
	w.code(0, on(api.OpInvalidate, q), api.OK)
}

func TestAddAndSearch(t *testing.T) { // P23.1
	w := build(t)
	s := w.must(0, get(session))
	k := w.must(0, add(session, user("k"), "kk"))
	w.code(0, mask(k, 0x3b000000), api.OK)
	w.code(0, add(session, user("k"), "x"), api.ErrAccess)
	w.code(0, mask(k, 0x3f000000), api.OK)
	w.code(0, on(api.OpRevoke, k), api.OK)
	l := w.must(0, add(session, user("k"), "new"))
	if _, is := w.Key(k); is || l == k || w.do(0, read(l)).Bytes != "new" {
		t.Error("in the place of one that is not live")
	}
	w.code(0, api.Call{Op: api.OpTimeout, Key: l, Time: 1}, api.OK)
	w.Tick()
	w.code(0, api.Call{Op: api.OpSearch, Ring: s, Index: user("k")}, api.ErrExpired)
	w.code(0, api.Call{Op: api.OpRequest, Index: user("k")}, api.ErrExpired)
	w.code(1, api.Call{Op: api.OpSearch, Ring: s, Index: user("k")}, api.ErrAccess)
	w.code(1, api.Call{Op: api.OpRequest, Index: user("k")}, api.ErrNone)
	w.code(0, api.Call{Op: api.OpSearch, Ring: l, Index: user("k")}, api.ErrExpired)
	m := w.must(0, add(session, user("k"), "newer"))
	if w.must(0, api.Call{Op: api.OpRequest, Index: user("k")}) != m || w.must(0, api.Call{Op: api.OpSearch, Ring: s, Index: user("k")}) != m {
		t.Error("found")
	}
	q := w.must(0, add(session, ring("q"), ""))
	p := w.must(0, add(session, ring("q"), ""))
	if _, is := w.Key(q); is || p == q {
		t.Error("a keyring can't be updated")
	}
}

func TestDepth(t *testing.T) { // P23.1
	w := build(t)
	w.must(0, get(session))
	at := []api.Serial{w.must(0, add(session, ring("r1"), ""))}
	for i := 2; i <= 6; i++ {
		at = append(at, w.must(0, add(at[i-2], ring("r"+strconv.Itoa(i)), "")))
	}
	o := w.must(0, add(session, ring("o"), ""))
	w.code(0, link(at[0], o), api.ErrDepth)
	w.code(0, link(at[0], at[5]), api.ErrLoop)
	w.code(0, link(at[1], o), api.OK)
	w.code(0, unlink(at[5], at[4]), api.OK)
	w.code(0, link(at[0], o), api.OK)
	w.code(0, move(at[0], session, at[4]), api.ErrLoop)
}

func TestQuota(t *testing.T) { // P23.3
	w := build(t, func(c *api.Config) { c.Count, c.Bytes = 3, 60 })
	w.must(0, get(session))
	k := w.must(0, add(session, user("k"), "kk"))
	w.code(0, add(session, user("l"), strings.Repeat("x", 40)), api.ErrQuota)
	w.code(0, api.Call{Op: api.OpUpdate, Key: k, Payload: strings.Repeat("x", 60)}, api.ErrQuota)
	w.code(0, add(session, user("k"), strings.Repeat("x", 60)), api.ErrQuota)
	w.must(0, add(session, user("l"), "l"))
	w.code(0, add(session, user("m"), "m"), api.ErrQuota)
	w.code(0, get(api.SpecThread), api.ErrQuota)
	w.code(0, unlink(k, session), api.OK)
	w.must(0, add(session, user("m"), "m"))
	if w.do(0, read(k)).Code != api.ErrNone {
		t.Error("dead")
	}
}

func TestFull(t *testing.T) { // P23.3
	w := build(t, func(c *api.Config) { c.Keys, c.Nodes, c.Extents = 3, 5, 2 })
	w.must(0, get(session))
	k := w.must(0, add(session, user("k"), "kk"))
	w.code(0, add(session, user("l"), strings.Repeat("x", 33)), api.ErrFull)
	x := w.begin(0, add(session, user("l"), strings.Repeat("x", 17)))
	if s := w.steps(x); s != "decode begin resolve find lock record extents extents" || x.Response().Code != api.ErrFull {
		t.Error(s, x.Response())
	}
	w.calm()
	l := w.must(0, add(session, user("l"), "l"))
	x = w.begin(0, get(api.SpecThread))
	if s := w.steps(x); s != "decode begin resolve record" || x.Response().Code != api.ErrFull {
		t.Error(s, x.Response())
	}
	w.code(0, unlink(l, session), api.OK)
	for w.Collect() {
	}
	m := w.must(0, add(session, user("m"), "m"))
	w.code(0, unlink(m, session), api.OK)
	for w.Collect() {
	}
	w.must(0, get(api.SpecThread))
	w.code(0, link(k, api.SpecThread), api.OK)
	w.Nodes().Alloc()
	w.Nodes().Alloc()
	x = w.begin(0, add(session, user("n"), "n"))
	for w.Collect() {
	}
	if s := w.steps(x); x.Response().Code != api.ErrFull {
		t.Error(s, x.Response())
	}
}

func TestAttempts(t *testing.T) { // P23.1, P23.3
	w := build(t)
	s := w.must(0, get(session))
	k := w.must(0, add(session, user("k"), strings.Repeat("k", 50)))
	w.code(0, mask(s, 0x3f3f3f3f), api.OK)
	w.code(0, mask(k, 0x3f3f3f3f), api.OK)
	x := w.begin(1, read(k))
	for x.Phase() != api.PhaseRead {
		x.Step()
	}
	x.Step()
	w.do(0, api.Call{Op: api.OpUpdate, Key: k, Payload: "new"})
	for w.Collect() {
	}
	if w.Rcu().Len() == 0 {
		t.Error("a reader is inside")
	}
	if l := w.steps(x); l != "read read read commit? begin resolve cells possess read commit" || x.Response().Bytes != "new" || x.Tries() != 1 {
		t.Error(l, x.Response())
	}
	w.calm()
	y := w.begin(1, add(s, user("y"), "y"))
	for y.Phase() != api.PhaseNodes {
		y.Step()
	}
	if !w.Locks().Has(1, s) {
		t.Error("no lock")
	}
	z := w.begin(0, add(s, user("z"), "z"))
	for range 20 {
		z.Step()
	}
	if p, _ := z.Step(); p.Phase != api.PhaseLock || !p.Waits || z.Done() {
		t.Error(p)
	}
	if l := w.steps(y); l != "nodes commit" {
		t.Error(l)
	}
	if l := w.steps(z); !strings.HasPrefix(l, "lock? begin resolve cells find") || !strings.HasSuffix(l, "nodes commit") || z.Tries() != 1 {
		t.Error(l)
	}
	n := w.begin(1, add(s, user("n"), "n"))
	for n.Phase() != api.PhaseNodes {
		n.Step()
	}
	room := w.Book().Room()
	w.do(0, on(api.OpRevoke, s))
	if p, _ := n.Step(); !p.Failed || w.Locks().Has(1, s) || w.Rcu().Depth(1) != 0 || w.Book().Room() != room+1 || len(n.Noted()) != 0 || n.Phase() != api.PhaseBegin {
		t.Error("nodes", p)
	}
	if w.steps(n); n.Response().Code != api.ErrRevoked {
		t.Error(n.Response())
	}
	w.calm()
}

func TestGreatLock(t *testing.T) { // P23.1
	w := build(t)
	s := w.must(0, get(session))
	w.code(0, mask(s, 0x3f3f3f3f), api.OK)
	x := w.begin(1, add(s, user("x"), "x"))
	for i := range api.MaxTries {
		for x.Phase() != api.PhaseNodes {
			x.Step()
		}
		if w.Locks().Has(1, 0) {
			t.Error("too early")
		}
		w.code(0, mask(s, 0x3f3f3f3f-api.Perm(i&1)), api.OK)
		for p, _ := x.Step(); !p.Failed; p, _ = x.Step() {
		}
	}
	if x.Tries() != api.MaxTries {
		t.Error(x.Tries())
	}
	if p, _ := x.Step(); p.Phase != api.PhaseBegin || p.Waits || !w.Locks().Has(1, 0) {
		t.Error(p)
	}
	y := w.begin(0, mask(s, 0x3f3f3f3f))
	for range 30 {
		y.Step()
	}
	if p, _ := y.Step(); p.Phase != api.PhaseCommit || !p.Waits {
		t.Error(p)
	}
	if l := w.steps(x); strings.Contains(l, "lock") || !strings.HasSuffix(l, "commit") || x.Response().Code != api.OK || w.Locks().Has(1, 0) {
		t.Error(l, x.Response())
	}
	if l := w.steps(y); l != "commit" {
		t.Error(l)
	}
	w.calm()
	z := w.begin(2, on(api.OpDescribe, s))
	for i := range api.MaxTries {
		for z.Phase() != api.PhaseCommit {
			z.Step()
		}
		w.code(0, mask(s, 0x3f3f3f3f-api.Perm(i)), api.OK)
		z.Step()
	}
	w.Locks().Try(3, 0)
	for range 4 {
		if p, _ := z.Step(); z.Tries() != api.MaxTries || p.Phase != api.PhaseBegin || !p.Waits || w.Rcu().Depth(2) != 0 {
			t.Error(p)
		}
	}
	w.Locks().Drop(3)
	if l := w.steps(z); !strings.HasPrefix(l, "begin resolve") || strings.Contains(l, "!") || z.Response().Code != api.OK {
		t.Error(l)
	}
	w.calm()
}

func TestSameSerial(t *testing.T) { // P23.3: another key of a serial is not the key that was looked at
	w := build(t)
	s := w.must(0, get(session))
	w.draw = 8
	k := w.must(0, add(session, user("k"), "kk"))
	x := w.begin(2, on(api.OpDescribe, k))
	for x.Phase() != api.PhaseCommit {
		x.Step()
	}
	w.code(0, unlink(k, s), api.OK)
	w.must(1, get(session))
	w.draw = 8
	if l := w.must(1, add(session, user("l"), "ll")); l != k {
		t.Fatal(l)
	}
	if l := w.steps(x); !strings.HasPrefix(l, "commit? ") || x.Response().Code != api.ErrAccess {
		t.Error(l, x.Response())
	}
}

func TestMoveLocks(t *testing.T) { // P23.1
	w := build(t)
	w.must(0, get(session))
	a := w.must(0, add(session, ring("a"), ""))
	b := w.must(0, add(session, ring("b"), ""))
	k := w.must(0, add(b, user("k"), "kk"))
	w.Locks().Try(3, b)
	x := w.begin(0, move(k, b, a))
	for p := (api.Progress{}); !p.Waits; p, _ = x.Step() {
	}
	if !w.Locks().Has(0, a) || !slices.Equal(w.Locks().Waiting(b), []int{0}) {
		t.Error("by rising serials")
	}
	w.Locks().Drop(3)
	if w.steps(x); x.Response().Code != api.OK || w.do(0, read(a)).Value != 1 || w.do(0, read(b)).Value != 0 {
		t.Error(x.Response())
	}
}

func TestNoted(t *testing.T) { // P23.2: what each phase looks at is noted
	w := build(t)
	s := w.must(0, get(session))
	a := w.must(0, add(session, user("a"), "a"))
	b := w.must(0, add(session, user("b"), "b"))
	w.code(0, on(api.OpInvalidate, b), api.OK)
	notes := func(c api.Call, want ...api.Seen) {
		t.Helper()
		x := w.begin(0, c)
		w.steps(x)
		l := x.Noted()
		for i := range l {
			l[i].Ver = 0
		}
		slices.SortFunc(want[2:], func(x, y api.Seen) int {
			return slices.IndexFunc(l, func(z api.Seen) bool { return z == x }) - slices.IndexFunc(l, func(z api.Seen) bool { return z == y })
		})
		if !slices.Equal(l, want) {
			t.Error(l)
		}
	}
	cell := api.Seen{Kind: api.SeenCell, Serial: session, Is: true, Holds: s}
	key := func(s api.Serial) api.Seen {
		return api.Seen{Kind: api.SeenKey, Serial: s, Is: true, Life: api.LifeLive}
	}
	content := api.Seen{Kind: api.SeenContent, Serial: s, Is: true}
	dead := api.Seen{Kind: api.SeenKey, Serial: b}
	notes(read(session), cell, key(s), content, key(a), dead)
	notes(add(session, user("c"), "c"), cell, key(s), content)
	notes(add(session, user("a"), "c"), cell, key(s), content, key(a))
	notes(add(session, user("b"), "b"), cell, key(s), content, dead)
	notes(on(api.OpDescribe, session), cell, key(s))
	notes(api.Call{Op: api.OpGet, Key: session}, cell, key(s))
	notes(api.Call{Op: api.OpJoin, Index: ring("j")}, cell, key(s))
}

func TestNamesOfCells(t *testing.T) { // P23.1
	w := build(t)
	for spec, d := range map[api.Serial]string{api.SpecThread: "_tid", api.SpecProcess: "_pid", session: "_ses", api.SpecUser: "_uid"} {
		w.must(0, get(spec))
		if r := w.do(0, on(api.OpDescribe, spec)); r.Bytes != "keyring;1;1;3f030000;"+d {
			t.Error(r)
		}
	}
}

func TestFailsAmongNodes(t *testing.T) { // P23.1: what was made ahead of that is given back
	w := build(t)
	s := w.must(0, get(session))
	w.code(0, mask(s, 0x3f3f3f3f), api.OK)
	var x *call.Call
	for i := 0; x == nil; i++ {
		c := w.begin(1, add(s, user("k"+strconv.Itoa(i)), "k"))
		for !c.Done() && x == nil {
			if p, _ := c.Step(); p.Phase == api.PhaseNodes && c.Phase() == api.PhaseNodes {
				x = c
			}
		}
	}
	nodes := w.Nodes().Len()
	w.code(0, on(api.OpRevoke, s), api.OK)
	if p, _ := x.Step(); !p.Failed || w.Nodes().Len() != nodes-1 {
		t.Error(p, w.Nodes().Len(), nodes)
	}
	for w.Collect() {
	}
	if w.Nodes().Len() != 0 || w.Extents().Len() != 0 || w.Book().Room() != 29 {
		t.Error(w.Nodes().Len(), w.Extents().Len(), w.Book().Room())
	}
}
