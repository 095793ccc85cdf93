package nibble_test

import (
	"bytes"
	"strings"
	"testing"

	"warder/api"
	"warder/nibble"
)

func some() []api.Index {
	var l []api.Index
	for t := api.TypeUser; t <= api.TypeRing; t++ {
		for _, d := range []string{"a", "b", "ab", "!", "~", ":", "<", strings.Repeat("z", 32), "_ses", "aa", "aaa"} {
			l = append(l, api.Index{Type: t, Desc: d})
		}
	}
	return l
}

func TestMayHashOf(t *testing.T) { // P2.1
	for _, x := range some() {
		if !nibble.May(x) {
			t.Error(x)
		}
	}
	for _, x := range []api.Index{{}, {Type: 0, Desc: "a"}, {Type: 5, Desc: "a"}, {Type: -1, Desc: "a"}, {Type: 1}, {Type: 1, Desc: strings.Repeat("a", 33)}, {Type: 1, Desc: "a b"}, {Type: 1, Desc: "a;"}, {Type: 1, Desc: "\x7f"}, {Type: 1, Desc: "\x00"}, {Type: 1, Desc: "é"}} {
		if nibble.May(x) || nibble.Of(x) != nil {
			t.Error(x)
		}
	}
	if h := nibble.Hash(api.Index{Type: 97}); h != 0x19a2 {
		t.Errorf("%x", h)
	}
	if h := nibble.Hash(api.Index{Type: 102, Desc: "oobar"}); h != 0x5434 {
		t.Errorf("%x", h)
	}
	if nibble.Hash(api.Index{Type: 97 + 256}) != 0x19a2 || nibble.Hash(api.Index{Type: 97 - 256}) != 0x19a2 {
		t.Error("Type is taken modulo 256")
	}
	x := api.Index{Type: 4, Desc: "a\x7e"}
	h := nibble.Hash(x)
	want := []byte{byte(h >> 12), byte(h >> 8 & 15), byte(h >> 4 & 15), byte(h & 15), 0, 2, 4, 6, 1, 7, 14}
	if !bytes.Equal(nibble.Of(x), want) {
		t.Error(nibble.Of(x), want)
	}
	if n := len(nibble.Of(api.Index{Type: 1, Desc: strings.Repeat("z", 32)})); n != api.MaxNibbles {
		t.Error(n)
	}
}

func TestRead(t *testing.T) { // P2.2
	for _, x := range some() {
		l := nibble.Of(x)
		if y, e := nibble.Read(l); y != x || e != api.OK {
			t.Error(x, y, e)
		}
		for i := range l {
			for _, d := range []byte{1, 8, 16} {
				m := bytes.Clone(l)
				m[i] ^= d
				if y, e := nibble.Read(m); e != api.ErrBytes || y != (api.Index{}) {
					t.Error(x, i, d, y)
				}
			}
		}
		for _, m := range [][]byte{l[:len(l)-1], l[:len(l)-2], append(bytes.Clone(l), 0), append(bytes.Clone(l), 6, 1), l[:7], nil} {
			if _, e := nibble.Read(m); e != api.ErrBytes {
				t.Error(x, m)
			}
		}
	}
}

func TestDiffLessText(t *testing.T) { // P2.3
	for _, c := range []struct {
		a, b []byte
		n    int
	}{{[]byte{1, 2, 3}, []byte{1, 2, 4}, 2}, {[]byte{1, 2}, []byte{1, 2, 4}, 2}, {[]byte{1, 2, 4}, []byte{1, 2}, 2}, {nil, nil, -1}, {nil, []byte{0}, 0}, {[]byte{7}, []byte{7}, -1}, {[]byte{1}, []byte{2}, 0}} {
		if n := nibble.Diff(c.a, c.b); n != c.n {
			t.Error(c, n)
		}
	}
	if s := nibble.Text([]byte{10, 0, 16, 15, 9, 255}); s != "a0?f9?" || nibble.Text(nil) != "" {
		t.Error(s)
	}
	bad := api.Index{Type: 9, Desc: "a"}
	good := api.Index{Type: 1, Desc: "a"}
	if !nibble.Less(bad, good) || nibble.Less(good, bad) || nibble.Less(bad, bad) || nibble.Less(good, good) {
		t.Error("what has no nibbles stands ahead of all that have")
	}
}

func TestApart(t *testing.T) { // P2.4
	l := some()
	for _, a := range l {
		for _, b := range l {
			x, y := nibble.Of(a), nibble.Of(b)
			d := nibble.Diff(x, y)
			if (d < 0) != (a == b) || d >= min(len(x), len(y)) {
				t.Error(a, b)
			}
			if a != b && (nibble.Less(a, b) == nibble.Less(b, a) || nibble.Less(a, b) != (x[d] < y[d])) {
				t.Error(a, b)
			}
		}
	}
}
