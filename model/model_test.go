package model_test

import (
	"reflect"
	"slices"
	"strconv"
	"strings"
	"testing"

	"warder/api"
	"warder/model"
	"warder/nibble"
	"warder/request"
)

func config() api.Config {
	return api.Config{Creds: []api.Cred{{UID: 1, GID: 1}, {UID: 2, GID: 1, Proc: 1}, {UID: 1, GID: 3, Proc: 2}, {}}, Keys: 1, Nodes: 1, Extents: 1, Count: 100, Bytes: 5000}
}

type world struct {
	*model.Model
	t     *testing.T
	draw  uint64
	limit api.Account
}

func build(t *testing.T, change ...func(c *api.Config)) *world {
	t.Helper()
	c := config()
	for _, f := range change {
		f(&c)
	}
	m, e := model.New(c)
	if e != api.OK {
		t.Fatal(e)
	}
	return &world{Model: m, t: t, limit: api.Account{Keys: c.Count, Bytes: c.Bytes}}
}

func (w *world) do(task int, c api.Call) api.Response {
	w.t.Helper()
	if !request.May(c) {
		w.t.Fatal("may not be", c)
	}
	was := w.Copy()
	r := w.Do(task, c, w.draw)
	w.draw++
	if r.Code != api.OK && (!w.Same(was) || r != api.Response{Code: r.Code}) {
		w.t.Error("refused, and changed", c, r)
	}
	w.follows()
	return r
}

// follows is P26.4.
func (w *world) follows() {
	w.t.Helper()
	v := w.View()
	links := map[api.Serial][]api.Serial{}
	for _, k := range v.Keys {
		links[k.Record.Serial] = k.Links
		if k.Record.Refs < 1 {
			w.t.Error("no Refs", k)
		}
	}
	for s := range links {
		seen := map[api.Serial]bool{}
		var down func(x api.Serial)
		down = func(x api.Serial) {
			for _, l := range links[x] {
				if l == s {
					w.t.Error("below itself", s)
				}
				if !seen[l] {
					seen[l] = true
					down(l)
				}
			}
		}
		down(s)
	}
	for _, a := range v.Accounts {
		if a.Keys > w.limit.Keys || a.Bytes > w.limit.Bytes {
			w.t.Error("above a limit", a)
		}
	}
}

func (w *world) must(task int, c api.Call) api.Serial {
	w.t.Helper()
	r := w.do(task, c)
	if r.Code != api.OK {
		w.t.Fatal(c, r)
	}
	return api.Serial(r.Value)
}

func (w *world) code(task int, c api.Call, e api.Errno) {
	w.t.Helper()
	if r := w.do(task, c); r != (api.Response{Code: e}) {
		w.t.Error(c, r)
	}
}

func index(k api.KeyType, d string) api.Index { return api.Index{Type: k, Desc: d} }

func user(d string) api.Index { return index(api.TypeUser, d) }

func ring(d string) api.Index { return index(api.TypeRing, d) }

const session = api.SpecSession

func get(spec api.Serial) api.Call { return api.Call{Op: api.OpGet, Key: spec, Create: true} }

func add(in api.Serial, x api.Index, p string) api.Call {
	return api.Call{Op: api.OpAdd, Ring: in, Index: x, Payload: p}
}

func read(s api.Serial) api.Call { return api.Call{Op: api.OpRead, Key: s} }

func link(s, in api.Serial) api.Call { return api.Call{Op: api.OpLink, Key: s, Ring: in} }

func unlink(s, in api.Serial) api.Call { return api.Call{Op: api.OpUnlink, Key: s, Ring: in} }

func move(s, from, to api.Serial) api.Call {
	return api.Call{Op: api.OpMove, Key: s, Ring: from, To: to}
}

func mask(s api.Serial, p api.Perm) api.Call { return api.Call{Op: api.OpSetPerm, Key: s, Perm: p} }

func on(o api.Op, s api.Serial) api.Call { return api.Call{Op: o, Key: s} }

func update(s api.Serial, p string) api.Call {
	return api.Call{Op: api.OpUpdate, Key: s, Payload: p}
}

func timeout(s api.Serial, n uint64) api.Call {
	return api.Call{Op: api.OpTimeout, Key: s, Time: n}
}

func TestNewDoRequest(t *testing.T) { // P26.1
	for i, f := range []func(c *api.Config){
		func(c *api.Config) { c.Creds = nil }, func(c *api.Config) { c.Creds[3].GID = 16 }, func(c *api.Config) { c.Creds[1].Proc = 8 }, func(c *api.Config) { c.Creds[1].UID = -1 }, func(c *api.Config) { c.Creds = make([]api.Cred, 9) },
		func(c *api.Config) { c.Keys = 65 }, func(c *api.Config) { c.Count = api.MaxLimit + 1 }, func(c *api.Config) { c.Bytes = api.MaxLimit + 1 },
	} {
		c := config()
		f(&c)
		if m, e := model.New(c); m != nil || e != api.ErrArg {
			t.Error(i, e)
		}
	}
	c := api.Config{Creds: []api.Cred{{UID: 15, GID: 15, Proc: 7}}, Keys: 64, Nodes: 512, Extents: 512, Count: api.MaxLimit, Bytes: api.MaxLimit}
	if _, e := model.New(c); e != api.OK {
		t.Error(e)
	}
	w := build(t)
	s := w.must(0, get(session))
	k := w.must(0, add(session, user("a"), "xy"))
	if r := w.do(0, read(k)); s != 1 || k != 2 || r != (api.Response{Value: 2, Bytes: "xy"}) {
		t.Error(s, k, r)
	}
	w.code(0, on(api.OpInvalidate, session), api.OK)
	w.code(0, read(k), api.ErrNone)
	b, _ := request.Bytes(get(session))
	if r := w.Request(0, b, 6); r != (api.Response{Value: 7}) {
		t.Error(r)
	}
	if r := w.Request(0, append(b, 1), 6); r != (api.Response{Code: api.ErrArg}) {
		t.Error(r)
	}
	for _, task := range []int{-1, 4} {
		if r := w.Do(task, get(session), 0); r != (api.Response{Code: api.ErrArg}) {
			t.Error(r)
		}
	}
	if r := w.Do(0, api.Call{Op: api.OpRead}, 0); r != (api.Response{Code: api.ErrArg}) {
		t.Error(r)
	}
	for _, m := range []*model.Model{nil, {}} {
		if r := m.Do(9, api.Call{}, 0); r != (api.Response{Code: api.ErrNil}) {
			t.Error(r)
		}
		if r := m.Request(9, nil, 0); r != (api.Response{Code: api.ErrNil}) {
			t.Error(r)
		}
	}
}

func TestSerials(t *testing.T) { // P26.1
	w := build(t)
	s := w.must(0, get(session))
	w.draw = 1<<30 - 1
	if k := w.must(0, add(session, user("a"), "x")); k != 1<<30 {
		t.Error(k)
	}
	w.draw = 1<<31 - 1
	if k := w.must(0, add(session, user("b"), "x")); k != 2 || s != 1 {
		t.Error("behind MaxSerial comes 1", k)
	}
}

func TestChecks(t *testing.T) { // P26.1
	w := build(t)
	s := w.must(0, get(session))
	k := w.must(0, add(session, user("k"), "kk"))
	l := w.must(0, add(session, index(api.TypeLogon, "l"), "ll"))
	q := w.must(0, add(session, ring("q"), ""))
	w.code(0, add(k, user("x"), "x"), api.ErrKind)
	w.code(1, add(s, user("x"), "x"), api.ErrAccess)
	w.code(0, read(l), api.ErrKind)
	w.code(0, update(q, "x"), api.ErrKind)
	w.code(0, update(l, strings.Repeat("x", 65)), api.ErrArg)
	w.code(0, update(l, strings.Repeat("x", 64)), api.OK)
	w.code(1, update(l, strings.Repeat("x", 65)), api.ErrAccess)
	w.code(0, link(q, q), api.ErrLoop)
	w.code(0, link(k, k), api.ErrKind)
	w.code(1, link(k, s), api.ErrAccess)
	w.code(1, link(99, s), api.ErrNone)
	w.code(1, link(k, 99), api.ErrNone)
	w.code(0, unlink(99, s), api.ErrNone)
	restrict := api.Call{Op: api.OpRestrict, Ring: q, Restrict: 1}
	w.code(1, restrict, api.ErrAccess)
	w.code(0, restrict, api.OK)
	w.code(0, restrict, api.ErrExists)
	w.code(0, add(q, ring("x"), ""), api.ErrPerm)
	w.code(0, link(l, q), api.ErrPerm)
	w.code(0, move(l, s, q), api.ErrPerm)
	w.code(0, move(k, q, s), api.ErrNone)
	w.code(0, move(k, s, s), api.OK)
	w.code(0, link(k, q), api.OK)
	w.code(0, link(k, q), api.OK)
	w.code(0, move(k, s, q), api.ErrExists)
	w.code(0, unlink(l, q), api.ErrNone)
	w.code(1, unlink(l, s), api.ErrAccess)
	w.code(0, mask(k, 0x3f3f3f3f), api.OK)
	w.code(1, mask(k, 0), api.ErrAccess)
	w.code(2, mask(k, 0x3f3f3f3f), api.OK)
	w.code(3, mask(k, 0x3f3f3f3f), api.OK)
	chown := func(uid, gid int) api.Call { return api.Call{Op: api.OpChown, Key: k, UID: uid, GID: gid} }
	w.code(2, chown(2, 0), api.ErrAccess)
	w.code(2, chown(1, 9), api.OK)
	w.code(1, chown(2, 0), api.ErrAccess)
	w.code(3, chown(2, 5), api.OK)
	if r := w.do(1, on(api.OpDescribe, k)); r != (api.Response{Bytes: "user;2;5;3f3f3f3f;k"}) {
		t.Error(r)
	}
	w.code(0, api.Call{Op: api.OpGet, Key: api.SpecUser}, api.ErrNone)
	w.code(0, on(api.OpDescribe, api.SpecUser), api.ErrNone)
}

func TestLives(t *testing.T) { // P26.1
	w := build(t)
	w.must(0, get(session))
	k := w.must(0, add(session, user("k"), "kk"))
	q := w.must(0, add(session, ring("q"), ""))
	in := w.must(0, add(q, user("in"), "in"))
	w.code(0, timeout(k, 2), api.OK)
	w.Tick()
	w.code(0, timeout(k, 2), api.OK)
	w.Tick()
	if r := w.do(0, read(k)); r.Bytes != "kk" {
		t.Error(r)
	}
	w.Tick()
	w.code(0, read(k), api.ErrExpired)
	w.code(0, update(k, "x"), api.ErrExpired)
	w.code(0, api.Call{Op: api.OpRequest, Index: user("k")}, api.ErrExpired)
	l := w.must(0, add(session, user("k"), "new"))
	w.code(0, read(k), api.ErrNone)
	w.code(0, on(api.OpRevoke, q), api.OK)
	w.code(0, read(in), api.ErrNone)
	w.code(0, add(q, user("x"), "x"), api.ErrRevoked)
	w.code(0, on(api.OpRevoke, l), api.OK)
	w.code(0, read(l), api.ErrRevoked)
	w.code(0, unlink(l, session), api.OK)
	w.code(0, on(api.OpDescribe, l), api.ErrNone)
	w.code(0, api.Call{Op: api.OpClear, Ring: session}, api.OK)
	if v := w.View(); len(v.Keys) != 1 || v.Accounts[1] != (api.Account{Keys: 1, Bytes: 21}) {
		t.Error(v)
	}
}

func TestSearch(t *testing.T) { // P26.1
	w := build(t)
	s := w.must(0, get(session))
	k := w.must(0, add(session, user("k"), "kk"))
	q := w.must(0, add(session, ring("q"), ""))
	l := w.must(0, add(q, user("k"), "deeper"))
	find := api.Call{Op: api.OpRequest, Index: user("k")}
	if w.must(0, find) != k {
		t.Error("the nearest one")
	}
	w.code(1, find, api.ErrNone)
	w.code(0, mask(k, 0x37000000), api.OK)
	if w.must(0, find) != l {
		t.Error("what may not be searched is passed over")
	}
	w.code(0, mask(q, 0x37000000), api.OK)
	w.code(0, find, api.ErrAccess)
	if r := w.do(0, read(l)); r.Bytes != "deeper" {
		t.Error("its owner reads it", r)
	}
	w.code(0, api.Call{Op: api.OpSearch, Ring: s, Index: user("none")}, api.ErrNone)
	w.code(1, api.Call{Op: api.OpSearch, Ring: s, Index: user("none")}, api.ErrAccess)
}

func TestDepth(t *testing.T) { // P26.1
	w := build(t)
	w.must(0, get(session))
	at := []api.Serial{w.must(0, add(session, ring("r1"), ""))}
	for i := 2; i <= 7; i++ {
		at = append(at, w.must(0, add(at[i-2], ring("r"+strconv.Itoa(i)), "")))
	}
	k := w.must(0, add(at[3], user("k"), "k"))
	o := w.must(0, add(session, ring("o"), ""))
	w.code(0, link(at[0], o), api.ErrDepth)
	w.code(0, link(at[0], at[5]), api.ErrLoop)
	w.code(0, link(at[1], o), api.ErrDepth)
	w.code(0, link(at[2], o), api.OK)
	w.code(0, move(at[0], session, at[4]), api.ErrLoop)
	if w.must(0, api.Call{Op: api.OpRequest, Index: user("k")}) != k {
		t.Error("deep, but not too deep")
	}
}

func TestQuota(t *testing.T) { // P26.4
	w := build(t, func(c *api.Config) { c.Count, c.Bytes = 3, 60 })
	w.must(0, get(session))
	k := w.must(0, add(session, user("k"), "kk"))
	w.code(0, add(session, user("l"), strings.Repeat("x", 36)), api.ErrQuota)
	w.code(0, update(k, strings.Repeat("x", 38)), api.ErrQuota)
	w.code(0, update(k, strings.Repeat("x", 37)), api.OK)
	w.code(0, update(k, "kk"), api.OK)
	w.must(0, add(session, user("l"), "l"))
	w.code(0, add(session, user("m"), "m"), api.ErrQuota)
	w.code(0, get(api.SpecThread), api.ErrQuota)
	w.code(0, api.Call{Op: api.OpJoin, Index: ring("j")}, api.ErrQuota)
	w.code(0, on(api.OpRevoke, k), api.OK)
	w.code(0, add(session, user("k"), "new"), api.ErrQuota)
	w.code(0, api.Call{Op: api.OpChown, Key: k, UID: 1}, api.ErrRevoked)
	w.code(0, unlink(k, session), api.OK)
	w.must(0, add(session, user("m"), "m"))
	if w.View().Accounts[1].Keys != 3 {
		t.Error(w.View().Accounts)
	}
}

func TestTickNowCell(t *testing.T) { // P26.2
	w := build(t)
	s := w.must(0, get(session))
	q := w.must(0, add(session, ring("q"), ""))
	a := w.must(0, add(q, user("a"), "a"))
	b := w.must(0, add(session, user("b"), "b"))
	w.code(0, timeout(q, 2), api.OK)
	w.code(0, timeout(a, 2), api.OK)
	w.code(0, timeout(b, 1), api.OK)
	var gone [][]api.Serial
	for i := 1; i <= 8; i++ {
		if l := w.Tick(); len(l) > 0 {
			gone = append(gone, l)
		}
		if w.Now() != uint64(i) {
			t.Error(w.Now())
		}
	}
	if !reflect.DeepEqual(gone, [][]api.Serial{{b}, {q, a}}) || len(w.View().Keys) != 1 {
		t.Error(gone)
	}
	for _, x := range []struct {
		task int
		spec api.Serial
		s    api.Serial
	}{{0, session, s}, {2, session, 0}, {0, api.SpecThread, 0}, {0, -5, 0}, {0, 0, 0}, {4, session, 0}, {-1, session, 0}} {
		if w.Cell(x.task, x.spec) != x.s {
			t.Error(x)
		}
	}
	u := w.must(0, get(api.SpecUser))
	if w.Cell(2, api.SpecUser) != u || w.Cell(1, api.SpecUser) != 0 {
		t.Error("the user's")
	}
	if (*model.Model)(nil).Tick() != nil || (*model.Model)(nil).Now() != 0 || (&model.Model{}).Cell(0, session) != 0 {
		t.Error("nil")
	}
}

func TestViewCopySame(t *testing.T) { // P26.3
	w := build(t)
	w.draw = 8
	s := w.must(0, get(session))
	w.draw = 2
	k := w.must(0, add(session, user("k"), "kk"))
	l := w.must(0, add(session, user("l"), "lll"))
	w.code(0, timeout(k, 3), api.OK)
	v := w.View()
	links := []api.Serial{k, l}
	if nibble.Less(user("l"), user("k")) {
		links = []api.Serial{l, k}
	}
	want := api.VaultView{Accounts: make([]api.Account, 16), Keys: []api.KeyView{
		{Record: api.Record{Serial: k, Index: user("k"), UID: 1, GID: 1, Perm: 0x3f030000, Expiry: 3, Size: 2, Refs: 1, Charge: 4}, Payload: "kk"},
		{Record: api.Record{Serial: l, Index: user("l"), UID: 1, GID: 1, Perm: 0x3f030000, Size: 3, Refs: 1, Charge: 5}, Payload: "lll"},
		{Record: api.Record{Serial: s, Index: ring("_ses"), UID: 1, GID: 1, Perm: 0x3f030000, Refs: 1, Charge: 21}, Links: links},
	}}
	want.Accounts[1] = api.Account{Keys: 3, Bytes: 30}
	if !reflect.DeepEqual(v, want) {
		t.Error(v)
	}
	v.Keys[2].Links[0] = 77
	if !reflect.DeepEqual(w.View(), want) {
		t.Error("shares memory")
	}
	for i, f := range []func(m *model.Model){
		func(m *model.Model) { m.Tick() }, func(m *model.Model) { m.Do(0, update(k, "zz"), 0) }, func(m *model.Model) { m.Do(0, unlink(k, session), 0) }, func(m *model.Model) { m.Do(1, get(session), 0) }, func(m *model.Model) { m.Do(0, mask(k, 0), 0) }, func(m *model.Model) { m.Do(0, on(api.OpRevoke, s), 0) },
	} {
		was, o := w.Copy(), w.Copy()
		if !w.Same(o) {
			t.Error("copy")
		}
		if f(o); w.Same(o) || !w.Same(was) {
			t.Error(i)
		}
	}
	for i, f := range []func(c *api.Config){func(c *api.Config) { c.Bytes++ }, func(c *api.Config) { c.Creds[0].GID++ }} {
		if build(t, f).Same(build(t).Model) {
			t.Error("configuration", i)
		}
	}
	var n *model.Model
	if n.Same(w.Model) || w.Same(n) || !n.Same(nil) || !n.Same(&model.Model{}) || n.Copy() != nil || (&model.Model{}).Copy() != nil || !reflect.DeepEqual(n.View(), api.VaultView{}) {
		t.Error("nil")
	}
}

func TestReadsLast(t *testing.T) { // P26.4
	w := build(t)
	w.must(0, get(session))
	last := map[string]string{}
	serial := map[string]api.Serial{}
	for i := range 200 {
		d, p := string("abc"[i*i%3]), strconv.Itoa(i)
		switch i % 5 {
		case 0, 1:
			serial[d] = w.must(0, add(session, user(d), p))
			last[d] = p
		case 2:
			if serial[d] != 0 && w.do(0, update(serial[d], p)).Code == api.OK {
				last[d] = p
			}
		case 3:
			if s := serial[d]; s != 0 && w.do(0, unlink(s, session)).Code == api.OK {
				delete(last, d)
				delete(serial, d)
			}
		}
		for d, s := range serial {
			if r := w.do(0, read(s)); r.Bytes != last[d] || r.Value != len(last[d]) {
				t.Fatal(d, r)
			}
		}
	}
	if !slices.Equal([]int{len(serial)}, []int{len(last)}) {
		t.Error(serial, last)
	}
}

func TestCellsAndRings(t *testing.T) { // P26.1
	w := build(t)
	for spec, d := range map[api.Serial]string{api.SpecThread: "_tid", api.SpecProcess: "_pid", session: "_ses", api.SpecUser: "_uid"} {
		s := w.must(0, get(spec))
		w.draw = 90
		if w.must(0, get(spec)) != s || w.must(0, api.Call{Op: api.OpGet, Key: spec}) != s {
			t.Error("the cell has one")
		}
		if r := w.do(0, on(api.OpDescribe, spec)); r.Bytes != "keyring;1;1;3f030000;"+d {
			t.Error(r)
		}
		w.draw = uint64(-spec) * 7
	}
	w.draw = 0x01020303
	k := w.must(0, add(session, user("k"), "k"))
	if r := w.do(0, read(session)); r != (api.Response{Value: 1, Bytes: "\x04\x03\x02\x01"}) || k != 0x01020304 {
		t.Error(r)
	}
	w.draw = 0x01020303
	if l := w.must(0, add(session, user("l"), "l")); l != k+1 || w.do(0, read(session)).Value != 2 {
		t.Error("the first that no key has", l)
	}
	if n := w.must(0, read(api.SpecThread)); n != 0 {
		t.Error("of no links", n)
	}
}

func TestWho(t *testing.T) { // P26.1
	w := build(t, func(c *api.Config) { c.Count, c.Bytes = 3, 100 })
	s := w.must(0, get(session))
	k := w.must(0, add(session, user("k"), "kk"))
	w.code(0, mask(k, 0x33003f00), api.OK)
	w.code(0, add(session, user("k"), "x"), api.ErrAccess)
	w.code(0, on(api.OpInvalidate, k), api.ErrAccess)
	w.code(0, on(api.OpRevoke, k), api.OK)
	if a := w.View().Accounts[1]; a != (api.Account{Keys: 2, Bytes: 23}) {
		t.Error(a)
	}
	w.code(0, on(api.OpRevoke, s), api.OK)
	if a := w.View().Accounts[1]; a != (api.Account{Keys: 1, Bytes: 21}) {
		t.Error("a keyring that is revoked has its charge", a)
	}
	w = build(t, func(c *api.Config) { c.Count, c.Bytes = 2, 100 })
	w.must(0, get(session))
	k = w.must(0, add(session, user("k"), strings.Repeat("k", 60)))
	w.code(0, mask(k, 0x3f3f3f3f), api.OK)
	give := func(uid int, e api.Errno) {
		t.Helper()
		w.code(3, api.Call{Op: api.OpChown, Key: k, UID: uid}, e)
	}
	give(1, api.OK)
	w.must(1, get(session))
	w.must(1, add(session, user("x"), "x"))
	give(2, api.ErrQuota)
	w.code(1, api.Call{Op: api.OpClear, Ring: session}, api.OK)
	w.must(1, add(session, user("x"), strings.Repeat("x", 20)))
	w.code(1, api.Call{Op: api.OpClear, Ring: session}, api.OK)
	give(2, api.OK)
	give(1, api.OK)
	if a := w.View().Accounts; a[1] != (api.Account{Keys: 2, Bytes: 83}) || a[2] != (api.Account{Keys: 1, Bytes: 21}) {
		t.Error(a)
	}
	w = build(t, func(c *api.Config) { c.Count, c.Bytes = 9, 70 })
	w.must(0, get(session))
	k = w.must(0, add(session, user("k"), strings.Repeat("k", 40)))
	w.code(0, mask(k, 0x3f3f3f3f), api.OK)
	w.must(1, get(session))
	w.must(1, add(session, user("x"), strings.Repeat("x", 9)))
	give(2, api.ErrQuota)
	give(1, api.OK)
}

func TestDying(t *testing.T) { // P26.1
	build3 := func() (*world, api.Serial, api.Serial, api.Serial) {
		w := build(t)
		w.must(0, get(session))
		q := w.must(0, add(session, ring("q"), ""))
		p := w.must(0, add(q, ring("p"), ""))
		return w, q, p, w.must(0, add(p, user("k"), "k"))
	}
	for i, c := range []func(w *world, q, p, k api.Serial){
		func(w *world, q, p, k api.Serial) { w.code(0, unlink(q, session), api.OK) },
		func(w *world, q, p, k api.Serial) { w.code(0, api.Call{Op: api.OpClear, Ring: session}, api.OK) },
		func(w *world, q, p, k api.Serial) { w.must(0, api.Call{Op: api.OpJoin, Index: ring("j")}) },
		func(w *world, q, p, k api.Serial) { w.code(0, on(api.OpInvalidate, q), api.OK) },
		func(w *world, q, p, k api.Serial) { w.must(0, add(session, ring("q"), "")) },
		func(w *world, q, p, k api.Serial) {
			w.code(0, timeout(q, 1), api.OK)
			for range 6 {
				w.Tick()
			}
		},
		func(w *world, q, p, k api.Serial) {
			w.must(0, get(api.SpecThread))
			o := w.must(0, add(api.SpecThread, ring("q"), ""))
			w.code(0, link(o, session), api.OK)
		},
	} {
		w, q, p, k := build3()
		c(w, q, p, k)
		for _, v := range w.View().Keys {
			if s := v.Record.Serial; s == q || s == p || s == k {
				t.Error(i, "is there", s)
			}
		}
	}
	w, q, p, k := build3()
	w.code(0, link(k, session), api.OK)
	w.code(0, on(api.OpRevoke, p), api.OK)
	w.code(0, move(p, q, session), api.ErrRevoked)
	w.code(0, move(k, session, q), api.OK)
	if r := w.do(0, read(session)); r.Value != 1 || w.do(0, read(q)).Value != 2 {
		t.Error("moved", r)
	}
	w.code(0, unlink(k, session), api.ErrNone)
	w.code(0, timeout(k, 1<<39), api.OK)
	w.code(0, timeout(k, 0), api.OK)
	if v := w.View(); len(v.Keys) != 4 || v.Keys[3].Record.Expiry != 0 {
		t.Error(v)
	}
}

func TestTooDeep(t *testing.T) { // P26.1: what is deeper than MaxDepth is not gone through, and each keyring is once
	w := build(t)
	at := w.must(0, get(session))
	for i := 2; i <= 8; i++ {
		w.code(0, mask(at, 0x3f3f0000), api.OK)
		w.must(0, add(at, user("k"+strconv.Itoa(i-1)), "k"))
		at = w.must(0, add(at, ring("r"+strconv.Itoa(i)), ""))
	}
	for i := 1; i <= 7; i++ {
		e := api.OK
		if i > api.MaxDepth {
			e = api.ErrNone
		}
		if r := w.do(0, api.Call{Op: api.OpRequest, Index: user("k" + strconv.Itoa(i))}); r.Code != e {
			t.Error(i, r)
		}
	}
	w = build(t)
	s := w.must(0, get(session))
	q := w.must(0, add(session, ring("q"), ""))
	w.must(0, add(q, user("k"), "k"))
	find := api.Call{Op: api.OpSearch, Ring: s, Index: user("k")}
	w.must(0, find)
	w.code(0, timeout(q, 1), api.OK)
	w.Tick()
	w.code(0, find, api.ErrNone)
	w.code(0, read(q), api.ErrExpired)
}
