package node

import (
	"slices"
	"testing"

	"warder/api"
)

func at(i int, g uint64) api.Handle { return api.Handle{Index: i, Gen: g} }

func TestMay(t *testing.T) { // P9.1
	for _, x := range []struct {
		l  api.Link
		is bool
	}{
		{api.Link{}, true}, {Key(1), true}, {Key(api.MaxSerial), true}, {To(at(0, 1)), true}, {To(at(4000, 1<<63)), true},
		{api.Link{Serial: 1}, false}, {api.Link{Node: at(0, 1)}, false}, {Key(0), false}, {Key(-1), false}, {Key(api.MaxSerial + 1), false},
		{api.Link{Kind: api.LinkKey, Serial: 1, Node: at(0, 1)}, false}, {api.Link{Kind: api.LinkNode, Serial: 1, Node: at(0, 1)}, false},
		{To(at(-1, 1)), false}, {To(at(0, 0)), false}, {api.Link{Kind: 3}, false}, {api.Link{Kind: -1}, false},
	} {
		if MayLink(x.l) != x.is {
			t.Error(x)
		}
	}
	if Key(-7) != (api.Link{Kind: api.LinkKey, Serial: -7}) || To(at(-1, 0)) != (api.Link{Kind: api.LinkNode, Node: at(-1, 0)}) {
		t.Error("whether it may be, or not")
	}
	two := With(With(api.Node{}, 0, Key(1)), 15, To(at(1, 1)))
	for depth, is := range map[int]bool{-1: false, 0: true, 70: true, 71: false} {
		if two.Depth = depth; May(two) != is {
			t.Error(depth)
		}
	}
	two.Depth = 0
	if May(api.Node{}) || May(With(two, 0, api.Link{})) || May(With(two, 3, Key(0))) || !May(With(two, 3, Key(9))) {
		t.Error("may")
	}
}

func TestKidWithPart(t *testing.T) { // P9.2
	n, e := Part(3, 0, Key(12), 10, To(at(4, 1)))
	if e != api.OK || Kid(n, 0) != Key(12) || Kid(n, 10) != To(at(4, 1)) || Kid(n, 1) != (api.Link{}) || n.Depth != 3 {
		t.Error(n, e)
	}
	for _, i := range []int{-1, 16} {
		if Kid(n, i) != (api.Link{}) || With(n, i, Key(1)) != n {
			t.Error(i)
		}
	}
	if m := With(n, 1, Key(5)); Kid(m, 1) != Key(5) || Kid(n, 1) != (api.Link{}) {
		t.Error("with")
	}
	for _, x := range []struct {
		depth, a, b int
		l, m        api.Link
	}{{-1, 0, 1, Key(1), Key(2)}, {71, 0, 1, Key(1), Key(2)}, {0, -1, 1, Key(1), Key(2)}, {0, 0, 16, Key(1), Key(2)}, {0, 3, 3, Key(1), Key(2)}, {0, 0, 1, Key(0), Key(2)}, {0, 0, 1, Key(1), api.Link{}}, {0, 0, 1, api.Link{}, Key(1)}} {
		if n, e := Part(x.depth, x.a, x.l, x.b, x.m); e != api.ErrArg || n != (api.Node{}) {
			t.Error(x)
		}
	}
}

func TestLooks(t *testing.T) { // P9.3
	n, _ := Part(3, 0, Key(12), 10, To(at(4, 1)))
	n = With(n, 5, Key(3))
	n = With(n, 2, To(at(9, 2)))
	if Count(n) != 4 || !slices.Equal(Keys(n), []api.Serial{12, 3}) || !slices.Equal(Nodes(n), []api.Handle{at(9, 2), at(4, 1)}) {
		t.Error(Keys(n), Nodes(n))
	}
	if l, is := Only(n); is || l != (api.Link{}) {
		t.Error(l)
	}
	m, _ := Part(3, 0, Key(12), 10, To(at(4, 1)))
	m = With(m, 0, api.Link{})
	if l, is := Only(m); !is || l != To(at(4, 1)) || Count(m) != 1 || May(m) {
		t.Error(l)
	}
	if _, is := Only(api.Node{}); is || Count(api.Node{}) != 0 || len(Keys(api.Node{})) != 0 {
		t.Error("of nothing")
	}
	key := []byte{3, 15, 16}
	for d, want := range map[int]int{-1: -1, 0: 3, 1: 15, 2: -1, 3: -1} {
		if Lead(key, d) != want {
			t.Error(d)
		}
	}
}

func TestTexts(t *testing.T) { // P9.4
	n, _ := Part(3, 0, Key(12), 10, To(at(4, 1)))
	if s, e := Text(n); s != "3 0=12 a=#4.1" || e != api.OK {
		t.Error(s, e)
	}
	if m, e := Of("3 0=12 a=#4.1"); m != n || e != api.OK {
		t.Error(m, e)
	}
	if s, e := Text(With(n, 0, api.Link{})); s != "" || e != api.ErrArg {
		t.Error(s, e)
	}
	for _, s := range []string{"", "3", "3 0=12", "03 0=12 a=#4.1", "+3 0=12 a=#4.1", "3 a=#4.1 0=12", "3 0=12 0=12 a=#4.1", "3 0=12 a=#4.1 ", "3  0=12 a=#4.1", " 3 0=12 a=#4.1", "3 0=12 A=#4.1", "3 0=012 a=#4.1", "3 0=12 a=#04.1", "3 0=12 a=#4.01", "3 0=12 a=#4.0", "3 0=0 a=#4.1", "3 0=12 a=#4", "3 0=12 a=#-1.1", "3 0=12 g=#4.1", "3 0=12 01=#4.1", "3 0=12 =#4.1", "3 012 a=#4.1", "71 0=12 a=#4.1", "-1 0=12 a=#4.1", "3 0=1073741825 a=#4.1", "3 0=12 a=#99999999999999999999.1", "3 0=12 a=#4.18446744073709551616", "3 0=12=3 a=#4.1", "3 0=12 a=#4.1.1", "3\t0=12 a=#4.1", "x 0=12 a=#4.1", "0 0=1 x"} {
		if m, e := Of(s); e != api.ErrBytes || m != (api.Node{}) {
			t.Error(s, m, e)
		}
	}
	if m, e := Of("0 0=1073741824 f=#9223372036854775807.18446744073709551615"); e != api.OK || Kid(m, 15) != To(at(1<<63-1, 1<<64-1)) {
		t.Error(m, e)
	}
}

func TestFollows(t *testing.T) { // P9.5
	for i := 1; i < 400; i++ {
		n := api.Node{Depth: i % 71}
		for k := range 16 {
			switch (i * (k + 3) / 2) % 5 {
			case 0:
				n = With(n, k, Key(api.Serial(i*k+1)))
			case 1:
				n = With(n, k, To(at(i, uint64(k+1))))
			}
		}
		for k := -1; k <= 16; k++ {
			if With(n, k, Kid(n, k)) != n {
				t.Error(k)
			}
		}
		if May(n) && Count(n) != len(Keys(n))+len(Nodes(n)) {
			t.Error("counts")
		}
		if s, e := Text(n); e == api.OK {
			if m, e := Of(s); m != n || e != api.OK {
				t.Error(s)
			}
			for j := range s {
				for _, c := range "0 =#.1a" {
					x := s[:j] + string(c) + s[j+1:]
					if m, e := Of(x); e == api.OK {
						if y, _ := Text(m); y != x {
							t.Error(x, y)
						}
					}
				}
			}
		}
	}
}
