package search

import (
	"maps"
	"slices"

	"warder/api"
	"warder/seen"
	"warder/types"
	"warder/vault"
	"warder/walk"
)

// Below looks for what is below a keyring.
type Below struct {
	vault  *vault.Vault
	target api.Serial
	set    *seen.Set

	row   []api.Serial // what is left of this level
	level int
	ahead []api.Serial // the next level, each once
	has   map[api.Serial]struct{}
	iter  *walk.Iter
	next  int // which kind of step

	levels int
	found  bool
	deep   bool
}

// NewBelow looks for a target below a keyring.
func NewBelow(v *vault.Vault, from, target api.Serial, s *seen.Set) *Below {
	if v.Book() == nil {
		return nil
	}
	return &Below{vault: v, target: target, set: s, row: []api.Serial{from}, level: 1, has: map[api.Serial]struct{}{}}
}

func (b *Below) none() bool { return b == nil || b.vault == nil }

// Step does a step.
func (b *Below) Step() bool {
	if b.none() {
		return true
	}
	steps := [over]func() int{enters: b.enter, iterates: b.iterate}
	if b.next < over {
		b.next = steps[b.next]()
	}
	if b.next == enters && len(b.row) == 0 {
		b.next = b.down()
	}
	return b.next == over
}

// enter begins with the next one of the level.
func (b *Below) enter() int {
	s := b.row[0]
	b.row = b.row[1:len(b.row):len(b.row)]
	look(b.vault, b.set, api.SeenKey, s)
	if s == b.target {
		b.found = true
		return over
	}
	r, is := b.vault.Key(s)
	if !is || !types.IsRing(r.Index.Type) {
		return enters
	}
	look(b.vault, b.set, api.SeenContent, s)
	b.iter = walk.Each(b.vault.Nodes(), r.Root)
	return iterates
}

// iterate gathers the next level.
func (b *Below) iterate() int {
	keys, done, e := b.iter.Step()
	if e != api.OK {
		return over
	}
	b.levels = b.level
	for _, k := range linked(b.vault, keys) {
		if _, is := b.has[k]; !is {
			b.has[k] = struct{}{}
			b.ahead = append(b.ahead, k)
		}
	}
	if !done {
		return iterates
	}
	return enters
}

// down goes on to the next level, if there is one, and it is not too deep.
func (b *Below) down() int {
	if len(b.ahead) == 0 {
		return over
	}
	if b.level == api.MaxDepth {
		b.deep = true
		return over
	}
	b.level++
	b.row, b.ahead = b.ahead, nil
	clear(b.has)
	return enters
}

// Result is what it came to.
func (b *Below) Result() (found bool, levels int, deep bool) {
	if b.none() {
		return false, 0, false
	}
	return b.found, b.levels, b.deep
}

// Copy is one that goes on apart.
func (b *Below) Copy(v *vault.Vault, s *seen.Set) *Below {
	if b.none() {
		return nil
	}
	o := *b
	o.vault, o.set = v, s
	o.row, o.ahead, o.has = slices.Clone(b.row), slices.Clone(b.ahead), maps.Clone(b.has)
	o.iter = b.iter.Copy(v.Nodes())
	return &o
}
