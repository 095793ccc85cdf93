package call

import (
	"bytes"
	"slices"

	"warder/api"
	"warder/edit"
	"warder/extent"
	"warder/nibble"
	"warder/search"
	"warder/seen"
	"warder/types"
	"warder/walk"
	"warder/wire"
)

// waits lets the next step be the same.
func (c *Call) waits() { c.step.Waits = true }

// begin enters a section; who has failed too often goes alone.
func (c *Call) begin() {
	if c.tries >= api.MaxTries && !c.vault.Locks().Try(c.task, great) {
		c.waits()
		return
	}
	c.vault.Rcu().Enter(c.task)
	c.inside = true
	c.try = attempt{set: seen.New(), slots: map[api.Serial]api.Handle{}, ids: c.idents()}
	c.phase = api.PhaseResolve
	if len(c.try.ids) == 0 {
		c.phase = api.PhaseCells
	}
}

// idents are the ids that the call names, in order.
func (c *Call) idents() []ident {
	if c.call.Op == api.OpJoin {
		return []ident{{name: api.SpecSession, bare: true}}
	}
	var l []ident
ids:
	for i, s := range [...]api.Serial{c.call.Key, c.call.Ring, c.call.To} {
		if s == 0 {
			continue ids
		}
		l = append(l, ident{name: s, bare: s < 0 || i == 0 && c.call.Op == api.OpUnlink})
	}
	return l
}

// note notes how something is.
func (c *Call) note(x api.Seen) api.Seen {
	x = c.vault.Look(x)
	c.try.set.Note(x)
	return x
}

func (c *Call) noteKey(s api.Serial) api.Seen {
	return c.note(api.Seen{Kind: api.SeenKey, Serial: s})
}

func (c *Call) noteContent(s api.Serial) api.Seen {
	return c.note(api.Seen{Kind: api.SeenContent, Serial: s})
}

func (c *Call) noteCell(spec api.Serial) api.Serial {
	return c.note(api.Seen{Kind: api.SeenCell, Serial: spec, Task: c.task}).Holds
}

// resolve looks an id up.
func (c *Call) resolve() {
	i := &c.try.ids[c.try.at]
	i.serial = i.name
	if i.name < 0 {
		i.serial, i.possessed = c.noteCell(i.name), true
	}
	if i.serial != 0 {
		c.noteKey(i.serial)
	}
	r, is := c.vault.Key(i.serial)
	i.index = r.Index
	switch {
	case !is && c.call.Op != api.OpGet && c.call.Op != api.OpJoin:
		c.comesTo(api.ErrNone)
	case i.bare:
		c.resolved()
	default:
		c.phase = api.PhaseCells
	}
}

// resolved goes on to the next id, or to what is to be done with all of them.
func (c *Call) resolved() {
	c.try.at++
	c.phase = api.PhaseResolve
	if c.try.at == len(c.try.ids) {
		c.checks()
	}
}

// cells looks what the task's cells have; where the call names no id, it searches them.
func (c *Call) cells() {
	var roots []api.Root
	for _, spec := range [...]api.Serial{api.SpecThread, api.SpecProcess, api.SpecSession} {
		if s := c.noteCell(spec); s != 0 {
			roots = append(roots, api.Root{Serial: s, Possessed: true})
		}
	}
	if len(c.try.ids) == 0 {
		c.searches(roots)
		return
	}
	i := &c.try.ids[c.try.at]
	if slices.Contains(roots, api.Root{Serial: i.serial, Possessed: true}) {
		i.possessed = true
		c.resolved()
		return
	}
	c.try.find = search.New(c.vault, c.task, roots, i.index, i.serial, c.try.set)
	c.phase = api.PhasePossess
}

// possess looks for the key, below what the cells have.
func (c *Call) possess() {
	if !c.try.find.Step() {
		return
	}
	_, _, e := c.try.find.Result()
	c.try.ids[c.try.at].possessed = e == api.OK
	c.resolved()
}

func (c *Call) searches(roots []api.Root) {
	c.try.find = search.New(c.vault, c.task, roots, c.call.Index, 0, c.try.set)
	c.phase = api.PhaseSearch
}

// search looks for the index that is asked for.
func (c *Call) search() {
	if !c.try.find.Step() {
		return
	}
	s, _, e := c.try.find.Result()
	c.try.value = int(s)
	c.comesTo(e)
}

// belows lets a keyring be linked in another one only where it can: behind that comes then.
func (c *Call) belows(i ident, ring api.Serial, then func()) {
	if !types.IsRing(i.index.Type) {
		then()
		return
	}
	c.try.below = search.NewBelow(c.vault, i.serial, ring, c.try.set)
	c.try.then = then
	c.phase = api.PhaseBelow
}

func (c *Call) goDown() {
	if !c.try.below.Step() {
		return
	}
	found, levels, _ := c.try.below.Result()
	switch {
	case found:
		c.comesTo(api.ErrLoop)
	case levels >= api.MaxDepth:
		c.comesTo(api.ErrDepth)
	default:
		c.try.then()
	}
}

// finds tells who stands in a keyring at an index.
func (c *Call) finds(ring api.Serial, x api.Index, stood func(s api.Serial)) {
	c.try.ring, c.try.want, c.try.stood = ring, nibble.Of(x), stood
	c.try.walk = nil
	c.phase = api.PhaseFind
}

func (c *Call) look() {
	if c.try.walk == nil {
		c.noteContent(c.try.ring)
		r, _ := c.vault.Key(c.try.ring)
		c.try.walk = walk.New(c.vault.Nodes(), r.Root, c.try.want)
	}
	done, e := c.try.walk.Step()
	must(e)
	if !done {
		return
	}
	s := api.Serial(0)
	if l := c.try.walk.Leaf(); l.Kind == api.LinkKey && bytes.Equal(c.vault.Name(l.Serial), c.try.want) {
		s = l.Serial
		c.noteKey(s)
	}
	c.try.stood(s)
}

// reads goes over a payload, or a keyring.
func (c *Call) reads() {
	r, _ := c.vault.Key(c.try.ids[0].serial)
	if types.IsRing(c.try.ids[0].index.Type) {
		c.readRing(r)
		return
	}
	if c.try.read == nil {
		reader, e := extent.Read(c.vault.Extents(), r.Payload)
		must(e)
		c.try.read = reader
	}
	done, e := c.try.read.Step()
	must(e)
	if done {
		c.try.bytes = c.try.read.Bytes()
		c.try.value = len(c.try.bytes)
		c.comesTo(api.OK)
	}
}

func (c *Call) readRing(r api.Record) {
	if c.try.iter == nil {
		c.noteContent(c.try.ids[0].serial)
		c.try.iter = walk.Each(c.vault.Nodes(), r.Root)
	}
	keys, done, e := c.try.iter.Step()
	must(e)
	for _, k := range keys {
		if c.noteKey(k).Is {
			b, e := wire.Whole(int(k))
			must(e)
			c.try.bytes = wire.Join(c.try.bytes, b)
			c.try.value++
		}
	}
	if done {
		c.comesTo(api.OK)
	}
}

// same: is a keyring's content as it was noted, if it was?
func (c *Call) same(ring api.Serial) bool {
	x, is := c.try.set.Of(api.Seen{Kind: api.SeenContent, Serial: ring})
	return !is || c.vault.Look(x) == x
}

// locks gets keyrings' locks, by rising serials; who has the great one needs none.
func (c *Call) locks(then func(), l ...api.Serial) {
	if c.vault.Locks().Has(c.task, great) {
		then()
		return
	}
	slices.Sort(l)
	c.try.rings, c.try.then = l, then
	c.phase = api.PhaseLock
}

func (c *Call) lock() {
	ring := c.try.rings[0]
	if !c.vault.Locks().Try(c.task, ring) {
		c.waits()
		return
	}
	if !c.same(ring) {
		c.fail()
		return
	}
	c.try.rings = c.try.rings[1:]
	if len(c.try.rings) == 0 {
		c.try.then()
	}
}

// records prepares a slot.
func (c *Call) records(then func()) {
	c.try.then = then
	c.phase = api.PhaseRecord
}

func (c *Call) record() {
	h, e := c.vault.Book().Prepare()
	must(e)
	c.try.deed.Record = h
	c.try.then()
}

// writes prepares a payload; a keyring has none.
func (c *Call) writes(then func()) {
	if c.call.Payload == "" {
		then()
		return
	}
	w, e := extent.Write(c.vault.Extents(), []byte(c.call.Payload))
	must(e)
	c.try.write, c.try.then = w, then
	c.phase = api.PhaseExtents
}

func (c *Call) extents() {
	done, e := c.try.write.Step()
	must(e)
	if !done {
		return
	}
	l, e := c.try.write.Made()
	must(e)
	c.try.deed.Payload, c.try.deed.Size = l, len(c.call.Payload)
	c.try.write = nil
	c.try.then()
}

// inserts prepares a keyring in which a key stands more: its edit is put where it is told.
func (c *Call) inserts(ring api.Serial, x api.Index, s api.Serial, to *api.Edit, then func()) {
	c.edits(ring, to, then, func(root api.Link) (*edit.Script, api.Errno) {
		return edit.Insert(c.vault.Nodes(), root, nibble.Of(x), s, c.vault.Name, c.vault.Reserve())
	})
}

// deletes prepares a keyring in which a key does not stand any more.
func (c *Call) deletes(ring api.Serial, x api.Index, to *api.Edit, then func()) {
	c.edits(ring, to, then, func(root api.Link) (*edit.Script, api.Errno) {
		return edit.Delete(c.vault.Nodes(), root, nibble.Of(x), c.vault.Name, c.vault.Reserve())
	})
}

func (c *Call) edits(ring api.Serial, to *api.Edit, then func(), begin func(root api.Link) (*edit.Script, api.Errno)) {
	c.try.ring = ring
	c.try.plan = func() *edit.Script {
		r, _ := c.vault.Key(ring)
		s, e := begin(r.Root)
		must(e)
		return s
	}
	c.try.then = func() {
		x, e := c.try.edit.Edit()
		must(e)
		*to, c.try.edit = x, nil
		then()
	}
	c.phase = api.PhaseNodes
}

func (c *Call) nodes() {
	if !c.same(c.try.ring) {
		c.fail()
		return
	}
	if c.try.edit == nil {
		c.try.edit = c.try.plan()
	}
	done, e := c.try.edit.Step()
	must(e)
	if done {
		c.try.then()
	}
}

// commit does the deed, if all is still as it was noted.
func (c *Call) commit() {
	if who, had := c.vault.Locks().Holder(great); had && who != c.task {
		c.waits()
		return
	}
	if !c.still() {
		c.fail()
		return
	}
	r := api.Response{Code: c.try.code, Value: c.try.value, Bytes: string(c.try.bytes)}
	if r.Code == api.OK && c.try.deed.Kind != api.DeedNone {
		r = c.does(r)
	}
	if r.Code != api.OK {
		r = api.Response{Code: r.Code}
	}
	c.answer(r)
}

// does the deed; what it put in is not given back any more.
func (c *Call) does(r api.Response) api.Response {
	if c.try.deed.Kind == api.DeedExpiry && c.call.Time > 0 {
		c.try.deed.Expiry = min(c.vault.Now()+c.call.Time, api.MaxTime)
	}
	n, e := c.vault.Do(c.task, c.try.deed)
	if e != api.OK {
		return api.Response{Code: e}
	}
	if c.try.deed.Kind == api.DeedAdd || c.try.deed.Kind == api.DeedInstall {
		r.Value = n
	}
	c.try.deed = api.Deed{}
	return r
}
