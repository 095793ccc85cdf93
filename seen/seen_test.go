package seen_test

import (
	"testing"

	"warder/api"
	"warder/seen"
)

func key(s api.Serial, l api.Life, ver uint64) api.Seen {
	return api.Seen{Kind: api.SeenKey, Serial: s, Is: true, Life: l, Ver: ver}
}

func content(s api.Serial, ver uint64) api.Seen {
	return api.Seen{Kind: api.SeenContent, Serial: s, Is: true, Ver: ver}
}

func cell(task int, spec, holds api.Serial, ver uint64) api.Seen {
	return api.Seen{Kind: api.SeenCell, Task: task, Serial: spec, Is: holds != 0, Holds: holds, Ver: ver}
}

func good() map[string]api.Seen {
	return map[string]api.Seen{
		"key 5 live 2": key(5, api.LifeLive, 2), "key 1 revoked 1": key(1, api.LifeRevoked, 1), "key 1073741824 expired 18446744073709551615": key(api.MaxSerial, api.LifeExpired, 1<<64-1),
		"key 7 none": {Kind: api.SeenKey, Serial: 7}, "content 5 1": content(5, 1), "content 8 none": {Kind: api.SeenContent, Serial: 8},
		"cell 3 session none 4": cell(3, api.SpecSession, 0, 4), "cell 0 thread 9 1": cell(0, api.SpecThread, 9, 1), "cell 7 process 1073741824 2": cell(7, api.SpecProcess, api.MaxSerial, 2), "cell 1 user none 1": cell(1, api.SpecUser, 0, 1),
	}
}

func bad() []api.Seen {
	return []api.Seen{
		{}, {Kind: 4, Serial: 1}, {Kind: -1, Serial: 1},
		{Kind: api.SeenKey}, {Kind: api.SeenKey, Serial: -1}, {Kind: api.SeenKey, Serial: api.MaxSerial + 1}, {Kind: api.SeenKey, Serial: 1, Task: 1}, {Kind: api.SeenKey, Serial: 1, Ver: 1}, {Kind: api.SeenKey, Serial: 1, Life: api.LifeLive}, {Kind: api.SeenKey, Serial: 1, Holds: 1},
		key(1, api.LifeLive, 0), key(1, api.LifeDead, 1), key(1, 4, 1), key(1, -1, 1), {Kind: api.SeenKey, Serial: 1, Is: true, Ver: 1, Life: api.LifeLive, Holds: 1}, {Kind: api.SeenKey, Serial: 1, Is: true, Ver: 1, Life: api.LifeLive, Task: 1},
		{Kind: api.SeenContent}, {Kind: api.SeenContent, Serial: api.SpecUser}, {Kind: api.SeenContent, Serial: 1, Ver: 1}, content(1, 0), {Kind: api.SeenContent, Serial: 1, Is: true, Ver: 1, Life: api.LifeLive}, {Kind: api.SeenContent, Serial: 1, Is: true, Ver: 1, Task: 2}, {Kind: api.SeenContent, Serial: 1, Is: true, Ver: 1, Holds: 2},
		cell(-1, api.SpecUser, 1, 1), cell(8, api.SpecUser, 1, 1), cell(0, 0, 1, 1), cell(0, -5, 1, 1), cell(0, 1, 1, 1), cell(0, api.SpecUser, 1, 0), cell(0, api.SpecUser, 0, 0), cell(0, api.SpecUser, -1, 1), cell(0, api.SpecUser, api.MaxSerial+1, 1), {Kind: api.SeenCell, Serial: -1, Is: true, Ver: 1}, {Kind: api.SeenCell, Serial: -1, Holds: 3, Ver: 1}, {Kind: api.SeenCell, Serial: -1, Ver: 1, Life: api.LifeLive},
	}
}

func TestMayNoteBroken(t *testing.T) { // P17.1
	for s, x := range good() {
		if !seen.May(x) {
			t.Error(s)
		}
	}
	for _, x := range bad() {
		if seen.May(x) || seen.New().Note(x) != api.ErrArg {
			t.Error(x)
		}
	}
	for _, s := range []*seen.Set{seen.New(), {}} {
		if s.Len() != 0 || s.Broken() {
			t.Error("at first")
		}
		for _, x := range []api.Seen{key(5, api.LifeLive, 2), content(5, 1), key(5, api.LifeLive, 2)} {
			if s.Note(x) != api.OK || s.Broken() {
				t.Error(x)
			}
		}
		if s.Note(bad()[0]) != api.ErrArg || s.Len() != 2 {
			t.Error(s.Len())
		}
		if s.Note(key(5, api.LifeLive, 3)) != api.OK || !s.Broken() || s.Len() != 2 {
			t.Error("broken")
		}
		if s.Note(key(5, api.LifeLive, 2)); !s.Broken() {
			t.Error("what is broken stays so")
		}
	}
	var n *seen.Set
	if n.Note(bad()[0]) != api.ErrNil || n.Broken() {
		t.Error("nil")
	}
	s := seen.New()
	for _, x := range []api.Seen{cell(0, -1, 3, 1), cell(1, -1, 4, 1), cell(0, -2, 0, 1), key(1, api.LifeLive, 1), content(1, 9)} {
		s.Note(x)
	}
	if s.Broken() || s.Len() != 5 {
		t.Error("these are of other things each")
	}
	if s.Note(api.Seen{Kind: api.SeenContent, Serial: 1}); !s.Broken() {
		t.Error("not there any more")
	}
}

func TestAllOfStill(t *testing.T) { // P17.2
	s := seen.New()
	a, b := content(5, 1), key(5, api.LifeLive, 2)
	s.Note(a)
	s.Note(b)
	l := s.All()
	if len(l) != 2 || l[0] != a || l[1] != b {
		t.Error(l)
	}
	if l[0] = b; s.All()[0] != a {
		t.Error("shares memory")
	}
	if x, is := s.Of(api.Seen{Kind: api.SeenKey, Serial: 5, Ver: 77}); x != b || !is {
		t.Error(x, is)
	}
	for _, y := range []api.Seen{{Kind: api.SeenKey, Serial: 6}, {Kind: api.SeenKey, Serial: 5, Task: 1}, {}} {
		if x, is := s.Of(y); x != (api.Seen{}) || is {
			t.Error(x, is)
		}
	}
	if !s.Still(a, b) || s.Still(b, a) || s.Still(a) || s.Still() || s.Still(a, b, a) || s.Still(a, key(5, api.LifeLive, 3)) {
		t.Error("still")
	}
	s.Note(content(5, 2))
	if s.Still(a, b) {
		t.Error("broken")
	}
	var n *seen.Set
	if _, is := n.Of(a); is || !n.Still() || n.Still(a) || n.Len() != 0 || n.All() != nil || !seen.New().Still() {
		t.Error("nil")
	}
}

func TestCopySame(t *testing.T) { // P17.3
	s := seen.New()
	s.Note(content(5, 1))
	o := s.Copy()
	if !s.Same(o) {
		t.Error("copy")
	}
	o.Note(content(6, 1))
	if s.Len() != 1 || s.Same(o) {
		t.Error("not apart")
	}
	o = s.Copy()
	o.Note(content(5, 2))
	if s.Broken() || s.Same(o) || !o.Same(o.Copy()) {
		t.Error("broken")
	}
	a, b := seen.New(), seen.New()
	a.Note(content(1, 1))
	a.Note(content(2, 1))
	b.Note(content(2, 1))
	b.Note(content(1, 1))
	var n *seen.Set
	if a.Same(b) || !n.Same(seen.New()) || !seen.New().Same(n) || !n.Same(nil) || n.Same(a) || a.Same(n) || n.Copy() != nil || !(&seen.Set{}).Same((&seen.Set{}).Copy()) {
		t.Error("same")
	}
}

func TestTexts(t *testing.T) { // P17.4
	for s, x := range good() {
		if y, e := seen.Text(x); y != s || e != api.OK {
			t.Error(s, y, e)
		}
		if y, e := seen.Read(s); y != x || e != api.OK {
			t.Error(s, y, e)
		}
	}
	for _, x := range bad() {
		if s, e := seen.Text(x); s != "" || e != api.ErrArg {
			t.Error(x, s)
		}
	}
	for _, s := range []string{"", "key", "key 5", "key 5 live", "key 5 live 0", "key 05 live 2", "key 5 live 02", "key 5 dead 2", "key 5 live 2 ", " key 5 live 2", "key  5 live 2", "key 5 none 2", "key none", "key 0 none", "key 5 2", "key 5 live 2 3", "content 5", "content 5 0", "content 5 live 1", "content 5 none 1", "cell 3 session 4", "cell 8 session none 4", "cell 3 sessions none 4", "cell 3 session none", "cell 3 session none 0", "cell 3 session 0 4", "cell 3 none 5 4", "cell none session none 4", "cell 3 session 5 4 4", "Key 7 none", "none", "key +5 none", "key 5 live 18446744073709551616", "cell -1 user none 1", "content 18446744073709551617 none"} {
		if x, e := seen.Read(s); x != (api.Seen{}) || e != api.ErrBytes {
			t.Error(s, x, e)
		}
	}
}

func TestFollows(t *testing.T) { // P17.5
	s := seen.New()
	for _, x := range good() {
		s.Note(x)
		if s.Still(s.All()...) == s.Broken() {
			t.Error(x)
		}
	}
	s.Note(key(5, api.LifeRevoked, 2))
	if s.Still(s.All()...) || !s.Broken() {
		t.Error("broken")
	}
	for a := range good() {
		for i := range a {
			for _, c := range "0 159klne" {
				b := a[:i] + string(c) + a[i+1:]
				if x, e := seen.Read(b); e == api.OK {
					if y, _ := seen.Text(x); y != b {
						t.Error(b, y)
					}
				}
			}
		}
	}
}
