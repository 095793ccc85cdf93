package call

import (
	"strconv"
	"strings"

	"warder/api"
	"warder/life"
	"warder/perm"
	"warder/restrict"
	"warder/types"
)

// checks is what is asked of the keys that the call names, once all of them are known, and what comes behind that.
func (c *Call) checks() {
	ops := map[api.Op]func(){
		api.OpAdd: c.add, api.OpSearch: c.searchRing, api.OpRead: c.readKey, api.OpUpdate: c.update, api.OpDescribe: c.describe,
		api.OpLink: c.link, api.OpUnlink: c.unlink, api.OpMove: c.move, api.OpClear: c.clear, api.OpSetPerm: c.setPerm, api.OpChown: c.chown,
		api.OpTimeout: c.timeout, api.OpRevoke: c.revoke, api.OpInvalidate: c.invalidate, api.OpRestrict: c.restrict, api.OpGet: c.get, api.OpJoin: c.join,
	}
	ops[c.call.Op]()
}

// commits is what comes behind the last thing that is prepared.
func (c *Call) commits() { c.comesTo(api.OK) }

// deed is what is done where nothing is to be prepared.
func (c *Call) deed(d api.Deed) {
	c.try.deed = d
	c.commits()
}

func (c *Call) key() ident { return c.try.ids[0] }

// ring is the keyring that the call names; it stands behind the key, if it names that, too.
func (c *Call) ring() ident {
	if c.call.Key != 0 {
		return c.try.ids[1]
	}
	return c.try.ids[0]
}

func (c *Call) to() ident { return c.try.ids[2] }

func anyType(api.KeyType) bool { return true }

// asked is what a key is checked for: is it live, of such a type, and has the task one of these rights?
func (c *Call) asked(i ident, is func(api.KeyType) bool, rights ...api.Right) api.Errno {
	r, there := c.vault.Key(i.serial)
	if !there {
		return api.ErrNone
	}
	switch life.Of(r, c.vault.Now()) {
	case api.LifeRevoked:
		return api.ErrRevoked
	case api.LifeExpired:
		return api.ErrExpired
	}
	if !is(r.Index.Type) {
		return api.ErrKind
	}
	return c.has(i, rights...)
}

func (c *Call) has(i ident, rights ...api.Right) api.Errno {
	for _, want := range rights {
		if perm.Has(c.vault.Rights(c.task, i.serial, i.possessed), want) {
			return api.OK
		}
	}
	return api.ErrAccess
}

// allows: does a keyring let a type in?
func (c *Call) allows(ring ident, t api.KeyType) api.Errno {
	if r, _ := c.vault.Key(ring.serial); !restrict.Allows(r.Restrict, t) {
		return api.ErrPerm
	}
	return api.OK
}

// passes: what is refused first the attempt comes to.
func (c *Call) passes(checks ...func() api.Errno) bool {
	for _, check := range checks {
		if e := check(); e != api.OK {
			c.comesTo(e)
			return false
		}
	}
	return true
}

// writable: is it a keyring, into which the task may write?
func (c *Call) writable(i ident) func() api.Errno {
	return func() api.Errno { return c.asked(i, types.IsRing, api.RightWrite) }
}

func (c *Call) may(i ident, is func(api.KeyType) bool, rights ...api.Right) func() api.Errno {
	return func() api.Errno { return c.asked(i, is, rights...) }
}

func (c *Call) lets(ring ident, t api.KeyType) func() api.Errno {
	return func() api.Errno { return c.allows(ring, t) }
}

func (c *Call) add() {
	ring := c.ring()
	if !c.passes(c.writable(ring)) {
		return
	}
	c.finds(ring.serial, c.call.Index, func(s api.Serial) {
		r, there := c.vault.Key(s)
		if there && life.Of(r, c.vault.Now()) == api.LifeLive && types.CanUpdate(r.Index.Type) {
			c.updates(ident{serial: s, possessed: ring.possessed})
			return
		}
		if !c.passes(c.lets(ring, c.call.Index.Type)) {
			return
		}
		c.try.deed = api.Deed{Kind: api.DeedAdd, Ring: ring.serial, Index: c.call.Index, Draw: c.draw}
		nodes := func() { c.inserts(ring.serial, c.call.Index, 0, &c.try.deed.A, c.commits) }
		record := func() { c.records(func() { c.writes(nodes) }) }
		c.locks(record, ring.serial)
	})
}

// updates is what add does to the key that stands there.
func (c *Call) updates(i ident) {
	if !c.passes(func() api.Errno { return c.has(i, api.RightWrite) }) {
		return
	}
	c.try.deed = api.Deed{Kind: api.DeedUpdate, Key: i.serial}
	c.try.value = int(i.serial)
	c.writes(c.commits)
}

func (c *Call) searchRing() {
	ring := c.ring()
	if c.passes(c.may(ring, types.IsRing, api.RightSearch)) {
		c.searches([]api.Root{{Serial: ring.serial, Possessed: ring.possessed}})
	}
}

func (c *Call) readKey() {
	if c.passes(c.may(c.key(), types.CanRead, api.RightRead)) {
		c.phase = api.PhaseRead
	}
}

func (c *Call) update() {
	k := c.key()
	fits := func() api.Errno {
		if !types.MayPayload(k.index.Type, len(c.call.Payload)) {
			return api.ErrArg
		}
		return api.OK
	}
	if c.passes(c.may(k, types.CanUpdate, api.RightWrite), fits) {
		c.try.deed = api.Deed{Kind: api.DeedUpdate, Key: k.serial}
		c.writes(c.commits)
	}
}

func (c *Call) describe() {
	if !c.passes(c.may(c.key(), anyType, api.RightView)) {
		return
	}
	r, _ := c.vault.Key(c.key().serial)
	mask, e := perm.Text(r.Perm)
	must(e)
	c.try.bytes = []byte(strings.Join([]string{types.Name(r.Index.Type), strconv.Itoa(r.UID), strconv.Itoa(r.GID), mask, r.Index.Desc}, ";"))
	c.commits()
}

func (c *Call) link() {
	k, ring := c.key(), c.ring()
	if !c.passes(c.may(k, anyType, api.RightLink), c.writable(ring), c.lets(ring, k.index.Type)) {
		return
	}
	put := func(s api.Serial) {
		if s == k.serial {
			c.commits()
			return
		}
		c.try.deed = api.Deed{Kind: api.DeedLink, Key: k.serial, Ring: ring.serial}
		nodes := func() { c.inserts(ring.serial, k.index, k.serial, &c.try.deed.A, c.commits) }
		c.locks(nodes, ring.serial)
	}
	c.belows(k, ring.serial, func() { c.finds(ring.serial, k.index, put) })
}

func (c *Call) unlink() {
	k, ring := c.key(), c.ring()
	if !c.passes(c.writable(ring)) {
		return
	}
	c.finds(ring.serial, k.index, func(s api.Serial) {
		if s != k.serial {
			c.comesTo(api.ErrNone)
			return
		}
		c.try.deed = api.Deed{Kind: api.DeedUnlink, Key: k.serial, Ring: ring.serial}
		c.locks(func() { c.deletes(ring.serial, k.index, &c.try.deed.A, c.commits) }, ring.serial)
	})
}

func (c *Call) move() {
	k, ring, to := c.key(), c.ring(), c.to()
	if !c.passes(c.may(k, anyType, api.RightLink), c.writable(ring), c.writable(to), c.lets(to, k.index.Type)) {
		return
	}
	nodes := func() {
		c.deletes(ring.serial, k.index, &c.try.deed.A, func() {
			c.inserts(to.serial, k.index, k.serial, &c.try.deed.B, c.commits)
		})
	}
	put := func(s api.Serial) {
		if _, there := c.vault.Key(s); there {
			c.comesTo(api.ErrExists)
			return
		}
		c.try.deed = api.Deed{Kind: api.DeedMove, Key: k.serial, Ring: ring.serial, To: to.serial}
		c.locks(nodes, ring.serial, to.serial)
	}
	take := func(s api.Serial) {
		switch {
		case s != k.serial:
			c.comesTo(api.ErrNone)
		case to.serial == ring.serial:
			c.commits()
		default:
			c.finds(to.serial, k.index, put)
		}
	}
	c.belows(k, to.serial, func() { c.finds(ring.serial, k.index, take) })
}

func (c *Call) clear() {
	ring := c.ring()
	if c.passes(c.writable(ring)) {
		c.try.deed = api.Deed{Kind: api.DeedClear, Ring: ring.serial}
		c.locks(c.commits, ring.serial)
	}
}

// owns: is the task's user 0, or the key's owner? Who is not 0 gives a key to nobody else.
func (c *Call) owns(i ident, to func(owner int) int) func() api.Errno {
	return func() api.Errno {
		t, _ := c.vault.Creds().Of(c.task)
		r, _ := c.vault.Key(i.serial)
		if t.UID != 0 && (t.UID != r.UID || to(r.UID) != r.UID) {
			return api.ErrAccess
		}
		return api.OK
	}
}

func (c *Call) setPerm() {
	k := c.key()
	if c.passes(c.may(k, anyType, api.RightSetAttr), c.owns(k, func(owner int) int { return owner })) {
		c.deed(api.Deed{Kind: api.DeedPerm, Key: k.serial, Perm: c.call.Perm})
	}
}

func (c *Call) chown() {
	k := c.key()
	if c.passes(c.may(k, anyType, api.RightSetAttr), c.owns(k, func(int) int { return c.call.UID })) {
		c.deed(api.Deed{Kind: api.DeedOwner, Key: k.serial, UID: c.call.UID, GID: c.call.GID})
	}
}

func (c *Call) timeout() {
	k := c.key()
	if c.passes(c.may(k, anyType, api.RightSetAttr)) {
		c.deed(api.Deed{Kind: api.DeedExpiry, Key: k.serial})
	}
}

func (c *Call) revoke() {
	k := c.key()
	if c.passes(c.may(k, anyType, api.RightWrite, api.RightSetAttr)) {
		c.deed(api.Deed{Kind: api.DeedRevoke, Key: k.serial})
	}
}

func (c *Call) invalidate() {
	k := c.key()
	if c.passes(func() api.Errno { return c.has(k, api.RightSearch) }) {
		c.deed(api.Deed{Kind: api.DeedInvalidate, Key: k.serial})
	}
}

func (c *Call) restrict() {
	ring := c.ring()
	open := func() api.Errno {
		if r, _ := c.vault.Key(ring.serial); r.Restrict != api.RestrictAny {
			return api.ErrExists
		}
		return api.OK
	}
	if c.passes(c.may(ring, types.IsRing, api.RightSetAttr), open) {
		c.deed(api.Deed{Kind: api.DeedRestrict, Key: ring.serial, Restrict: c.call.Restrict})
	}
}

// cellName is what a keyring is called that a cell is given.
func cellName(spec api.Serial) string {
	switch spec {
	case api.SpecThread:
		return "_tid"
	case api.SpecProcess:
		return "_pid"
	case api.SpecSession:
		return "_ses"
	}
	return "_uid"
}

func (c *Call) get() {
	switch k := c.key(); {
	case k.serial != 0:
		c.try.value = int(k.serial)
		c.commits()
	case !c.call.Create:
		c.comesTo(api.ErrNone)
	default:
		c.installs(k.name, api.Index{Type: api.TypeRing, Desc: cellName(k.name)})
	}
}

func (c *Call) join() { c.installs(api.SpecSession, c.call.Index) }

func (c *Call) installs(cell api.Serial, x api.Index) {
	c.try.deed = api.Deed{Kind: api.DeedInstall, Index: x, Cell: cell, Draw: c.draw}
	c.records(c.commits)
}
