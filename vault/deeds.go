package vault

import (
	"warder/api"
	"warder/edit"
	"warder/extent"
	"warder/life"
	"warder/nibble"
	"warder/perm"
	"warder/types"
	"warder/walk"
)

// leaves is what a commit leaves behind.
type leaves struct {
	api.Retired
}

func (l *leaves) record(h api.Handle) { l.Records = append(l.Records, h) }

func (l *leaves) node(h api.Handle) { l.Nodes = append(l.Nodes, h) }

func (l *leaves) extent(h api.Handle) { l.Extents = append(l.Extents, h) }

func leave(l []api.Handle, take func(api.Handle)) {
	for _, h := range l {
		take(h)
	}
}

// commit is a deed that is being done.
type commit struct {
	v    *Vault
	task int
	deed api.Deed
	left leaves
}

// kind is what is done, and which keys a deed names.
type kind struct {
	do            func(*commit) (int, api.Errno)
	key, ring, to bool
}

func kinds() map[api.DeedKind]kind {
	return map[api.DeedKind]kind{
		api.DeedAdd:        {do: (*commit).add, ring: true},
		api.DeedUpdate:     {do: (*commit).update, key: true},
		api.DeedLink:       {do: (*commit).link, key: true, ring: true},
		api.DeedUnlink:     {do: (*commit).unlink, key: true, ring: true},
		api.DeedMove:       {do: (*commit).move, key: true, ring: true, to: true},
		api.DeedClear:      {do: (*commit).clear, ring: true},
		api.DeedPerm:       {do: (*commit).perm, key: true},
		api.DeedOwner:      {do: (*commit).owner, key: true},
		api.DeedExpiry:     {do: (*commit).expiry, key: true},
		api.DeedRevoke:     {do: (*commit).revoke, key: true},
		api.DeedInvalidate: {do: (*commit).invalidate, key: true},
		api.DeedRestrict:   {do: (*commit).restrict, key: true},
		api.DeedInstall:    {do: (*commit).install},
		api.DeedSweep:      {do: (*commit).unlink, key: true, ring: true},
	}
}

// Do does a deed.
func (v *Vault) Do(task int, d api.Deed) (int, api.Errno) {
	if v.none() {
		return 0, api.ErrNil
	}
	_, there := v.creds.Of(task)
	k, is := kinds()[d.Kind]
	if !there || !is {
		return 0, api.ErrArg
	}
	named := func(asked bool, s api.Serial) bool {
		_, in := v.book.Handle(s)
		return in || !asked
	}
	if !named(k.key, d.Key) || !named(k.ring, d.Ring) || !named(k.to, d.To) {
		return 0, api.ErrNone
	}
	c := &commit{v: v, task: task, deed: d}
	value, e := k.do(c)
	if e != api.OK {
		return 0, e
	}
	c.retire()
	return value, api.OK
}

// retire hands all that was left over, in one callback.
func (c *commit) retire() { c.v.rcu.Retire(c.left.Retired) }

// change changes a record, if its key is in the book.
func (c *commit) change(s api.Serial, how func(*api.Record)) {
	r, is := c.v.book.Get(s)
	if !is {
		return
	}
	how(&r)
	c.v.book.Set(s, r)
}

// empties retires a key's content, and tells what it was linked to.
func (c *commit) empties(r *api.Record) []api.Serial {
	chain, _ := extent.Chain(c.v.extents, r.Payload)
	leave(chain, c.left.extent)
	r.Payload = api.Handle{}
	keys, nodes, _ := walk.All(c.v.nodes, r.Root)
	leave(nodes, c.left.node)
	r.Root = api.Link{}
	return keys
}

// becomes lets a keyring be what an edit says.
func (c *commit) becomes(ring api.Serial, e api.Edit) {
	c.change(ring, func(r *api.Record) {
		r.Root = e.Root
		r.Content++
	})
	leave(e.Old, c.left.node)
}

// stands is who stands at an index in a keyring, or 0.
func (c *commit) stands(ring api.Serial, x api.Index) api.Serial {
	r, _ := c.v.book.Get(ring)
	l, _, e := walk.Find(c.v.nodes, r.Root, nibble.Of(x))
	if k, is := c.v.book.Get(l.Serial); e == api.OK && l.Kind == api.LinkKey && is && k.Index == x {
		return l.Serial
	}
	return 0
}

// takeOut leaves nothing of a key that is dead, and to which no link leads any more.
func (c *commit) takeOut(s api.Serial) {
	r, is := c.v.book.Get(s)
	if !is || !r.Dead || r.In > 0 {
		return
	}
	if h, e := c.v.book.Remove(s); e == api.OK {
		c.left.record(h)
	}
}

// ends lets a key be dead, and tells what it was linked to; of one that is dead there is nothing to end.
func (c *commit) ends(s api.Serial) []api.Serial {
	r, is := c.v.Key(s)
	if !is {
		return nil
	}
	c.v.quota.Release(r.UID, 1, r.Charge)
	links := c.empties(&r)
	r.Dead = true
	r.Charge, r.Size = 0, 0
	r.Refs -= c.v.creds.Drop(s)
	r.Ver++
	r.Content++
	c.v.timers.Remove(s)
	c.v.book.Set(s, r)
	return links
}

// loses takes a link, or a cell, from a key: does it die by that?
func (c *commit) loses(s api.Serial, in int) bool {
	dies := false
	c.change(s, func(r *api.Record) {
		r.In -= in
		r.Refs--
		dies = !r.Dead && r.Refs <= 0
	})
	c.takeOut(s)
	return dies
}

// dies lets a key die, and all who have nothing left that leads to them.
func (c *commit) dies(s api.Serial) {
	var die func(s api.Serial)
	die = func(s api.Serial) {
		for _, k := range c.ends(s) {
			if c.loses(k, 1) {
				die(k)
			}
		}
		c.takeOut(s)
	}
	die(s)
}

// drop drops links, one behind the other.
func (c *commit) drop(l ...api.Serial) {
	for _, s := range l {
		if c.loses(s, 1) {
			c.dies(s)
		}
	}
}

// gains lets a link more lead to a key.
func (c *commit) gains(s api.Serial) {
	c.change(s, func(r *api.Record) {
		r.In++
		r.Refs++
	})
}

func first(l []api.Handle) api.Handle {
	if len(l) == 0 {
		return api.Handle{}
	}
	return l[0]
}

// more is a key more, of the task's user: charged, but not published yet. Its serial is free till then.
func (c *commit) more(in int) (api.Record, api.Errno) {
	d := c.deed
	t, _ := c.v.creds.Of(c.task)
	r := api.Record{
		Index: d.Index, UID: t.UID, GID: t.GID, Perm: perm.Default(d.Index.Type),
		Size: d.Size, Payload: first(d.Payload), Refs: 1, In: in, Ver: 1, Content: 1,
		Charge: types.Charge(d.Index.Type, len(d.Index.Desc), d.Size),
	}
	if e := c.v.quota.Charge(r.UID, 1, r.Charge); e != api.OK {
		return api.Record{}, e
	}
	s, e := c.v.book.Next(d.Draw)
	r.Serial = s
	return r, e
}

func (c *commit) add() (int, api.Errno) {
	r, e := c.more(1)
	if e != api.OK {
		return 0, e
	}
	stood := c.stands(c.deed.Ring, r.Index)
	a, e := edit.Seal(c.v.nodes, c.deed.A, r.Serial)
	if e == api.OK {
		e = c.v.book.Publish(c.deed.Record, r)
	}
	if e != api.OK {
		c.v.quota.Release(r.UID, 1, r.Charge)
		return 0, e
	}
	c.becomes(c.deed.Ring, a)
	c.drop(stood)
	return int(r.Serial), api.OK
}

func (c *commit) install() (int, api.Errno) {
	r, e := c.more(0)
	if e != api.OK {
		return 0, e
	}
	was, _, _ := c.v.creds.Cell(c.task, c.deed.Cell)
	e = c.v.book.Publish(c.deed.Record, r)
	if e == api.OK {
		e = c.v.creds.Put(c.task, c.deed.Cell, r.Serial)
	}
	if e != api.OK {
		c.v.quota.Release(r.UID, 1, r.Charge)
		return 0, e
	}
	if c.loses(was, 0) {
		c.dies(was)
	}
	return int(r.Serial), api.OK
}

func (c *commit) update() (int, api.Errno) {
	d := c.deed
	r, _ := c.v.book.Get(d.Key)
	charge := types.Charge(r.Index.Type, len(r.Index.Desc), d.Size)
	if e := c.v.quota.Change(r.UID, r.Charge, charge); e != api.OK {
		return 0, e
	}
	c.change(d.Key, func(r *api.Record) {
		c.empties(r)
		r.Payload, r.Size, r.Charge = first(d.Payload), d.Size, charge
		r.Ver++
		r.Content++
	})
	return 0, api.OK
}

func (c *commit) link() (int, api.Errno) {
	k, _ := c.v.book.Get(c.deed.Key)
	stood := c.stands(c.deed.Ring, k.Index)
	c.gains(c.deed.Key)
	c.becomes(c.deed.Ring, c.deed.A)
	c.drop(stood)
	return 0, api.OK
}

func (c *commit) unlink() (int, api.Errno) {
	c.becomes(c.deed.Ring, c.deed.A)
	c.drop(c.deed.Key)
	return 0, api.OK
}

func (c *commit) move() (int, api.Errno) {
	k, _ := c.v.book.Get(c.deed.Key)
	stood := c.stands(c.deed.To, k.Index)
	c.gains(c.deed.Key)
	c.becomes(c.deed.To, c.deed.B)
	c.becomes(c.deed.Ring, c.deed.A)
	c.drop(stood, c.deed.Key)
	return 0, api.OK
}

func (c *commit) clear() (int, api.Errno) {
	var links []api.Serial
	c.change(c.deed.Ring, func(r *api.Record) {
		links = c.empties(r)
		r.Content++
	})
	c.drop(links...)
	return 0, api.OK
}

// set changes what is not the content.
func (c *commit) set(how func(*api.Record)) (int, api.Errno) {
	c.change(c.deed.Key, func(r *api.Record) {
		how(r)
		r.Ver++
	})
	return 0, api.OK
}

func (c *commit) perm() (int, api.Errno) {
	return c.set(func(r *api.Record) { r.Perm = c.deed.Perm })
}

func (c *commit) owner() (int, api.Errno) {
	r, _ := c.v.book.Get(c.deed.Key)
	if e := c.v.quota.Move(r.UID, c.deed.UID, 1, r.Charge); e != api.OK {
		return 0, e
	}
	return c.set(func(r *api.Record) { r.UID, r.GID = c.deed.UID, c.deed.GID })
}

func (c *commit) expiry() (int, api.Errno) {
	return c.set(func(r *api.Record) {
		r.Expiry = c.deed.Expiry
		c.v.timers.Remove(r.Serial)
		if at, is := life.Gone(*r); is {
			c.v.timers.Put(r.Serial, at)
		}
	})
}

func (c *commit) restrict() (int, api.Errno) {
	return c.set(func(r *api.Record) { r.Restrict = c.deed.Restrict })
}

func (c *commit) revoke() (int, api.Errno) {
	var links []api.Serial
	c.set(func(r *api.Record) {
		links = c.empties(r)
		c.v.quota.Release(r.UID, 0, uint64(r.Size))
		r.Charge -= uint64(r.Size)
		r.Revoked = true
		r.Size = 0
		r.Content++
	})
	c.drop(links...)
	return 0, api.OK
}

func (c *commit) invalidate() (int, api.Errno) {
	c.dies(c.deed.Key)
	return 0, api.OK
}
