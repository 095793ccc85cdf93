package node_test

import (
	"slices"
	"testing"

	"warder/api"
	"warder/node"
)

func at(i int, g uint64) api.Handle { return api.Handle{Index: i, Gen: g} }

func TestMay(t *testing.T) { // P9.1
	for _, x := range []struct {
		l  api.Link
		is bool
	}{
		{api.Link{}, true}, {node.Key(1), true}, {node.Key(api.MaxSerial), true}, {node.To(at(0, 1)), true}, {node.To(at(4000, 1<<63)), true},
		{api.Link{Serial: 1}, false}, {api.Link{Node: at(0, 1)}, false}, {node.Key(0), false}, {node.Key(-1), false}, {node.Key(api.MaxSerial + 1), false},
		{api.Link{Kind: api.LinkKey, Serial: 1, Node: at(0, 1)}, false}, {api.Link{Kind: api.LinkNode, Serial: 1, Node: at(0, 1)}, false},
		{node.To(at(-1, 1)), false}, {node.To(at(0, 0)), false}, {api.Link{Kind: 3}, false}, {api.Link{Kind: -1}, false},
	} {
		if node.MayLink(x.l) != x.is {
			t.Error(x)
		}
	}
	if node.Key(-7) != (api.Link{Kind: api.LinkKey, Serial: -7}) || node.To(at(-1, 0)) != (api.Link{Kind: api.LinkNode, Node: at(-1, 0)}) {
		t.Error("whether it may be, or not")
	}
	two := node.With(node.With(api.Node{}, 0, node.Key(1)), 15, node.To(at(1, 1)))
	for depth, is := range map[int]bool{-1: false, 0: true, 70: true, 71: false} {
		if two.Depth = depth; node.May(two) != is {
			t.Error(depth)
		}
	}
	two.Depth = 0
	if node.May(api.Node{}) || node.May(node.With(two, 0, api.Link{})) || node.May(node.With(two, 3, node.Key(0))) || !node.May(node.With(two, 3, node.Key(9))) {
		t.Error("may")
	}
}

func TestKidWithPart(t *testing.T) { // P9.2
	n, e := node.Part(3, 0, node.Key(12), 10, node.To(at(4, 1)))
	if e != api.OK || node.Kid(n, 0) != node.Key(12) || node.Kid(n, 10) != node.To(at(4, 1)) || node.Kid(n, 1) != (api.Link{}) || n.Depth != 3 {
		t.Error(n, e)
	}
	for _, i := range []int{-1, 16} {
		if node.Kid(n, i) != (api.Link{}) || node.With(n, i, node.Key(1)) != n {
			t.Error(i)
		}
	}
	if m := node.With(n, 1, node.Key(5)); node.Kid(m, 1) != node.Key(5) || node.Kid(n, 1) != (api.Link{}) {
		t.Error("with")
	}
	for _, x := range []struct {
		depth, a, b int
		l, m        api.Link
	}{{-1, 0, 1, node.Key(1), node.Key(2)}, {71, 0, 1, node.Key(1), node.Key(2)}, {0, -1, 1, node.Key(1), node.Key(2)}, {0, 0, 16, node.Key(1), node.Key(2)}, {0, 3, 3, node.Key(1), node.Key(2)}, {0, 0, 1, node.Key(0), node.Key(2)}, {0, 0, 1, node.Key(1), api.Link{}}, {0, 0, 1, api.Link{}, node.Key(1)}} {
		if n, e := node.Part(x.depth, x.a, x.l, x.b, x.m); e != api.ErrArg || n != (api.Node{}) {
			t.Error(x)
		}
	}
}

func TestLooks(t *testing.T) { // P9.3
	n, _ := node.Part(3, 0, node.Key(12), 10, node.To(at(4, 1)))
	n = node.With(n, 5, node.Key(3))
	n = node.With(n, 2, node.To(at(9, 2)))
	if node.Count(n) != 4 || !slices.Equal(node.Keys(n), []api.Serial{12, 3}) || !slices.Equal(node.Nodes(n), []api.Handle{at(9, 2), at(4, 1)}) {
		t.Error(node.Keys(n), node.Nodes(n))
	}
	if l, is := node.Only(n); is || l != (api.Link{}) {
		t.Error(l)
	}
	m, _ := node.Part(3, 0, node.Key(12), 10, node.To(at(4, 1)))
	m = node.With(m, 0, api.Link{})
	if l, is := node.Only(m); !is || l != node.To(at(4, 1)) || node.Count(m) != 1 || node.May(m) {
		t.Error(l)
	}
	if _, is := node.Only(api.Node{}); is || node.Count(api.Node{}) != 0 || len(node.Keys(api.Node{})) != 0 {
		t.Error("of nothing")
	}
	key := []byte{3, 15, 16}
	for d, want := range map[int]int{-1: -1, 0: 3, 1: 15, 2: -1, 3: -1} {
		if node.Lead(key, d) != want {
			t.Error(d)
		}
	}
}

func TestTexts(t *testing.T) { // P9.4
	n, _ := node.Part(3, 0, node.Key(12), 10, node.To(at(4, 1)))
	if s, e := node.Text(n); s != "3 0=12 a=#4.1" || e != api.OK {
		t.Error(s, e)
	}
	if m, e := node.Of("3 0=12 a=#4.1"); m != n || e != api.OK {
		t.Error(m, e)
	}
	if s, e := node.Text(node.With(n, 0, api.Link{})); s != "" || e != api.ErrArg {
		t.Error(s, e)
	}
	for _, s := range []string{"", "3", "3 0=12", "03 0=12 a=#4.1", "+3 0=12 a=#4.1", "3 a=#4.1 0=12", "3 0=12 0=12 a=#4.1", "3 0=12 a=#4.1 ", "3  0=12 a=#4.1", " 3 0=12 a=#4.1", "3 0=12 A=#4.1", "3 0=012 a=#4.1", "3 0=12 a=#04.1", "3 0=12 a=#4.01", "3 0=12 a=#4.0", "3 0=0 a=#4.1", "3 0=12 a=#4", "3 0=12 a=#-1.1", "3 0=12 g=#4.1", "3 0=12 01=#4.1", "3 0=12 =#4.1", "3 012 a=#4.1", "71 0=12 a=#4.1", "-1 0=12 a=#4.1", "3 0=1073741825 a=#4.1", "3 0=12 a=#99999999999999999999.1", "3 0=12 a=#4.18446744073709551616", "3 0=12=3 a=#4.1", "3 0=12 a=#4.1.1", "3\t0=12 a=#4.1", "x 0=12 a=#4.1", "0 0=1 x"} {
		if m, e := node.Of(s); e != api.ErrBytes || m != (api.Node{}) {
			t.Error(s, m, e)
		}
	}
	if m, e := node.Of("0 0=1073741824 f=#9223372036854775807.18446744073709551615"); e != api.OK || node.Kid(m, 15) != node.To(at(1<<63-1, 1<<64-1)) {
		t.Error(m, e)
	}
}

func TestFollows(t *testing.T) { // P9.5
	for i := 1; i < 400; i++ {
		n := api.Node{Depth: i % 71}
		for k := range 16 {
			switch (i * (k + 3) / 2) % 5 {
			case 0:
				n = node.With(n, k, node.Key(api.Serial(i*k+1)))
			case 1:
				n = node.With(n, k, node.To(at(i, uint64(k+1))))
			}
		}
		for k := -1; k <= 16; k++ {
			if node.With(n, k, node.Kid(n, k)) != n {
				t.Error(k)
			}
		}
		if node.May(n) && node.Count(n) != len(node.Keys(n))+len(node.Nodes(n)) {
			t.Error("counts")
		}
		if s, e := node.Text(n); e == api.OK {
			if m, e := node.Of(s); m != n || e != api.OK {
				t.Error(s)
			}
			for j := range s {
				for _, c := range "0 =#.1a" {
					x := s[:j] + string(c) + s[j+1:]
					if m, e := node.Of(x); e == api.OK {
						if y, _ := node.Text(m); y != x {
							t.Error(x, y)
						}
					}
				}
			}
		}
	}
}
