package model

import (
	"strconv"
	"strings"

	"warder/api"
	"warder/perm"
	"warder/restrict"
	"warder/types"
)

// ident is a key that the call names, possessed or not.
type ident struct {
	serial    api.Serial
	possessed bool
}

// deal is a call that is being done. All that it may be refused by stands ahead of what it changes.
type deal struct {
	m     *Model
	task  int
	call  api.Call
	draw  uint64
	key   ident
	ring  ident
	to    ident
	value int
	bytes []byte
}

func ops() map[api.Op]func(*deal) {
	return map[api.Op]func(*deal){
		api.OpAdd: (*deal).add, api.OpRequest: (*deal).request, api.OpSearch: (*deal).search, api.OpRead: (*deal).read, api.OpUpdate: (*deal).update, api.OpDescribe: (*deal).describe,
		api.OpLink: (*deal).link, api.OpUnlink: (*deal).unlink, api.OpMove: (*deal).move, api.OpClear: (*deal).clear, api.OpSetPerm: (*deal).setPerm, api.OpChown: (*deal).chown,
		api.OpTimeout: (*deal).timeout, api.OpRevoke: (*deal).revoke, api.OpInvalidate: (*deal).invalidate, api.OpRestrict: (*deal).restrict, api.OpGet: (*deal).get, api.OpJoin: (*deal).join,
	}
}

// refuse leaves the call: nothing was changed yet.
func refuse(e api.Errno) { panic(e) }

// need refuses what does not hold.
func need(holds bool, e api.Errno) {
	if !holds {
		refuse(e)
	}
}

func (d *deal) answer() (r api.Response) {
	defer func() {
		if x := recover(); x != nil {
			e, is := x.(api.Errno)
			if !is {
				e = api.ErrState
			}
			r = api.Response{Code: e}
		}
	}()
	if d.call.Op != api.OpGet && d.call.Op != api.OpJoin {
		d.key, d.ring, d.to = d.ident(d.call.Key), d.ident(d.call.Ring), d.ident(d.call.To)
	}
	ops()[d.call.Op](d)
	return api.Response{Value: d.value, Bytes: string(d.bytes)}
}

func (d *deal) cell(spec api.Serial) api.Serial { return d.m.Cell(d.task, spec) }

func (d *deal) cred() api.Cred { return d.m.config.Creds[d.task] }

// ident is the key that an id names; what the call does not name is nobody.
func (d *deal) ident(id api.Serial) ident {
	if id == 0 {
		return ident{}
	}
	if id < 0 {
		s := d.cell(id)
		need(s != 0, api.ErrNone)
		return ident{serial: s, possessed: true}
	}
	k := d.m.keys[id]
	need(k != nil, api.ErrNone)
	for _, r := range d.own() {
		if r.serial == id {
			return r
		}
	}
	_, e := d.hunt(d.own(), k.index, id)
	return ident{serial: id, possessed: e == api.OK}
}

// own are the keyrings that the task's cells have.
func (d *deal) own() []ident {
	var l []ident
	for _, spec := range [...]api.Serial{api.SpecThread, api.SpecProcess, api.SpecSession} {
		if s := d.cell(spec); s != 0 {
			l = append(l, ident{serial: s, possessed: true})
		}
	}
	return l
}

func (d *deal) rights(i ident) api.Right {
	k := d.m.keys[i.serial]
	return perm.Rights(k.perm, d.cred(), k.uid, k.gid, i.possessed)
}

func (d *deal) has(i ident, want api.Right) bool { return perm.Has(d.rights(i), want) }

// hunt looks for an index, or for one key of it, in keyrings, and in those that are linked in them.
func (d *deal) hunt(roots []ident, want api.Index, exact api.Serial) (ident, api.Errno) {
	var found ident
	kept := api.OK
	through := map[api.Serial]struct{}{}
	stands := func(i ident) bool {
		why := api.OK
		switch l := d.m.life(d.m.keys[i.serial]); {
		case exact != 0:
			return i.serial == exact
		case l == api.LifeRevoked:
			why = api.ErrRevoked
		case l == api.LifeExpired:
			why = api.ErrExpired
		case !d.has(i, api.RightSearch):
			why = api.ErrAccess
		}
		if kept == api.OK {
			kept = why
		}
		return why == api.OK
	}
	var goThrough func(i ident, depth int)
	goThrough = func(i ident, depth int) {
		k := d.m.keys[i.serial]
		_, was := through[i.serial]
		if found.serial != 0 || depth > api.MaxDepth || was || !k.isRing() || d.m.life(k) != api.LifeLive || !d.has(i, api.RightSearch) {
			return
		}
		through[i.serial] = struct{}{}
		if s := k.links[want]; s != 0 && stands(ident{serial: s, possessed: i.possessed}) {
			found = ident{serial: s, possessed: i.possessed}
			return
		}
		for _, s := range k.linked() {
			goThrough(ident{serial: s, possessed: i.possessed}, depth+1)
		}
	}
	for _, r := range roots {
		goThrough(r, 1)
	}
	switch {
	case found.serial != 0:
		return found, api.OK
	case kept != api.OK:
		return ident{}, kept
	}
	return ident{}, api.ErrNone
}

func anyType(api.KeyType) bool { return true }

// ask asks a key for one of these rights.
func (d *deal) ask(i ident, is func(api.KeyType) bool, rights ...api.Right) *key {
	k := d.m.keys[i.serial]
	l := d.m.life(k)
	need(l != api.LifeRevoked, api.ErrRevoked)
	need(l != api.LifeExpired, api.ErrExpired)
	need(is(k.index.Type), api.ErrKind)
	may := false
	for _, r := range rights {
		may = may || d.has(i, r)
	}
	need(may, api.ErrAccess)
	return k
}

// lets refuses a key of a type that a keyring does not let in.
func lets(ring *key, t api.KeyType) { need(restrict.Allows(ring.restrict, t), api.ErrPerm) }

// charges refuses what would bring an account above a limit.
func (d *deal) charges(uid int, keys, less, more uint64) {
	a := d.m.account(uid)
	need(a.Keys+keys <= d.m.config.Count && a.Bytes-less+more <= d.m.config.Bytes, api.ErrQuota)
}

// more is a key more, to which nothing leads as yet.
func (d *deal) more(x api.Index, payload string) api.Serial {
	c := d.cred()
	k := &key{index: x, uid: c.UID, gid: c.GID, perm: perm.Default(x.Type), payload: payload, links: map[api.Index]api.Serial{}}
	d.charges(c.UID, 1, 0, k.charge())
	s := 1 + api.Serial(d.draw%api.MaxSerial)
	for d.m.keys[s] != nil {
		s = s%api.MaxSerial + 1
	}
	d.m.keys[s] = k
	d.value = int(s)
	return s
}

func (d *deal) add() {
	ring := d.ask(d.ring, types.IsRing, api.RightWrite)
	s := ring.links[d.call.Index]
	if k := d.m.keys[s]; k != nil && d.m.life(k) == api.LifeLive && types.CanUpdate(k.index.Type) {
		need(d.has(ident{serial: s, possessed: d.ring.possessed}, api.RightWrite), api.ErrAccess)
		d.puts(k)
		d.value = int(s)
		return
	}
	lets(ring, d.call.Index.Type)
	ring.links[d.call.Index] = d.more(d.call.Index, d.call.Payload)
	d.m.reap()
}

// puts lets a key's payload be the call's.
func (d *deal) puts(k *key) {
	n := *k
	n.payload = d.call.Payload
	d.charges(k.uid, 0, k.charge(), n.charge())
	k.payload = d.call.Payload
}

func (d *deal) finds(roots []ident) {
	i, e := d.hunt(roots, d.call.Index, 0)
	need(e == api.OK, e)
	d.value = int(i.serial)
}

func (d *deal) request() { d.finds(d.own()) }

func (d *deal) search() {
	d.ask(d.ring, types.IsRing, api.RightSearch)
	d.finds([]ident{d.ring})
}

func (d *deal) read() {
	k := d.ask(d.key, types.CanRead, api.RightRead)
	if !k.isRing() {
		d.bytes = []byte(k.payload)
		d.value = len(d.bytes)
		return
	}
	for _, s := range k.linked() {
		b := uint32(s)
		d.bytes = append(d.bytes, byte(b), byte(b>>8), byte(b>>16), byte(b>>24))
		d.value++
	}
}

func (d *deal) update() {
	k := d.ask(d.key, types.CanUpdate, api.RightWrite)
	need(types.MayPayload(k.index.Type, len(d.call.Payload)), api.ErrArg)
	d.puts(k)
}

func (d *deal) describe() {
	k := d.ask(d.key, anyType, api.RightView)
	mask, _ := perm.Text(k.perm)
	d.bytes = []byte(strings.Join([]string{types.Name(k.index.Type), strconv.Itoa(k.uid), strconv.Itoa(k.gid), mask, k.index.Desc}, ";"))
}

// above refuses a keyring that stands below the key that is to be linked in it, or a key below which it is too deep.
func (d *deal) above(ring api.Serial) {
	if !d.m.keys[d.key.serial].isRing() {
		return
	}
	level := map[api.Serial]struct{}{d.key.serial: {}}
	for n := 1; n <= api.MaxDepth && len(level) > 0; n++ {
		_, loop := level[ring]
		need(!loop, api.ErrLoop)
		if n == api.MaxDepth {
			refuse(api.ErrDepth)
		}
		next := map[api.Serial]struct{}{}
		for s := range level {
			for _, l := range d.m.keys[s].links {
				if d.m.keys[l].isRing() {
					next[l] = struct{}{}
				}
			}
		}
		level = next
	}
}

func (d *deal) link() {
	k := d.ask(d.key, anyType, api.RightLink)
	ring := d.ask(d.ring, types.IsRing, api.RightWrite)
	lets(ring, k.index.Type)
	d.above(d.ring.serial)
	ring.links[k.index] = d.key.serial
	d.m.reap()
}

// standsIn refuses a keyring in which the key does not stand.
func (d *deal) standsIn(ring *key) api.Index {
	x := d.m.keys[d.key.serial].index
	need(ring.links[x] == d.key.serial, api.ErrNone)
	return x
}

func (d *deal) unlink() {
	ring := d.ask(d.ring, types.IsRing, api.RightWrite)
	delete(ring.links, d.standsIn(ring))
	d.m.reap()
}

func (d *deal) move() {
	k := d.ask(d.key, anyType, api.RightLink)
	ring := d.ask(d.ring, types.IsRing, api.RightWrite)
	to := d.ask(d.to, types.IsRing, api.RightWrite)
	lets(to, k.index.Type)
	d.above(d.to.serial)
	x := d.standsIn(ring)
	if d.to.serial == d.ring.serial {
		return
	}
	need(to.links[x] == 0, api.ErrExists)
	delete(ring.links, x)
	to.links[x] = d.key.serial
}

func (d *deal) clear() {
	clear(d.ask(d.ring, types.IsRing, api.RightWrite).links)
	d.m.reap()
}

func (d *deal) setPerm() {
	k := d.ask(d.key, anyType, api.RightSetAttr)
	need(d.cred().UID == 0 || d.cred().UID == k.uid, api.ErrAccess)
	k.perm = d.call.Perm
}

func (d *deal) chown() {
	k := d.ask(d.key, anyType, api.RightSetAttr)
	need(d.cred().UID == 0 || d.cred().UID == k.uid && d.call.UID == k.uid, api.ErrAccess)
	if d.call.UID != k.uid {
		d.charges(d.call.UID, 1, 0, k.charge())
	}
	k.uid, k.gid = d.call.UID, d.call.GID
}

func (d *deal) timeout() {
	k := d.ask(d.key, anyType, api.RightSetAttr)
	k.expiry = 0
	if d.call.Time > 0 {
		k.expiry = min(d.m.now+d.call.Time, api.MaxTime)
	}
}

func (d *deal) revoke() {
	k := d.ask(d.key, anyType, api.RightWrite, api.RightSetAttr)
	k.revoked, k.payload = true, ""
	clear(k.links)
	d.m.reap()
}

func (d *deal) invalidate() {
	need(d.has(d.key, api.RightSearch), api.ErrAccess)
	d.m.dies(d.key.serial)
}

func (d *deal) restrict() {
	ring := d.ask(d.ring, types.IsRing, api.RightSetAttr)
	need(ring.restrict == api.RestrictAny, api.ErrExists)
	ring.restrict = d.call.Restrict
}

// installs puts a keyring more into a cell, in the place of who is there.
func (d *deal) installs(cell api.Serial, x api.Index) {
	p, _ := d.m.place(d.task, cell)
	d.m.cells[p] = d.more(x, "")
	d.m.reap()
}

// cellName is what a keyring is called that a cell is given.
func cellName(spec api.Serial) string {
	switch spec {
	case api.SpecThread:
		return "_tid"
	case api.SpecProcess:
		return "_pid"
	case api.SpecSession:
		return "_ses"
	}
	return "_uid"
}

func (d *deal) get() {
	if s := d.cell(d.call.Key); s != 0 {
		d.value = int(s)
		return
	}
	need(d.call.Create, api.ErrNone)
	d.installs(d.call.Key, api.Index{Type: api.TypeRing, Desc: cellName(d.call.Key)})
}

func (d *deal) join() { d.installs(api.SpecSession, d.call.Index) }
