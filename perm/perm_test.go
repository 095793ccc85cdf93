package perm_test

import (
	"testing"

	"warder/api"
	"warder/perm"
)

func TestMayRightsHas(t *testing.T) { // P5.1
	for p, is := range map[api.Perm]bool{0: true, 0x3f3f3f3f: true, 0x40: false, 0x80000000: false, 0x3f7f3f3f: false, 0x3f3f4000: false} {
		if perm.May(p) != is {
			t.Errorf("%x", p)
		}
	}
	who := api.Cred{UID: 1, GID: 2, Proc: 5}
	for _, c := range []struct {
		p         api.Perm
		uid, gid  int
		possessed bool
		r         api.Right
	}{
		{0x3f030201, 1, 2, false, 3}, {0x3f030201, 1, 9, false, 3}, {0x3f030201, 9, 2, false, 2}, {0x3f030201, 9, 9, false, 1},
		{0x3f030201, 9, 9, true, 63}, {0x08030201, 1, 2, true, 11}, {0x08030204, 9, 9, true, 12}, {0x10000000, 1, 2, false, 0},
		{0x00000f3f, 1, 2, false, 0}, {0x00000f3f, 1, 2, true, 0}, {0xffffffff, 1, 2, false, 63}, {0xc1c0c0c0, 1, 2, true, 1},
	} {
		if r := perm.Rights(c.p, who, c.uid, c.gid, c.possessed); r != c.r {
			t.Errorf("%x %v: %d", c.p, c, r)
		}
	}
	if !perm.Has(63, 63) || !perm.Has(5, 1) || !perm.Has(5, 0) || perm.Has(5, 2) || perm.Has(63, 64) || !perm.Has(192, 64) || perm.Has(4, 5) {
		t.Error("Has")
	}
}

func TestOfDefault(t *testing.T) { // P5.2
	if p, e := perm.Of(63, 3, 2, 1); p != 0x3f030201 || e != api.OK {
		t.Error(p, e)
	}
	for _, l := range [][4]api.Right{{64, 0, 0, 0}, {0, 64, 0, 0}, {0, 0, 128, 0}, {0, 0, 0, 255}} {
		if p, e := perm.Of(l[0], l[1], l[2], l[3]); p != 0 || e != api.ErrArg {
			t.Error(l, p, e)
		}
	}
	for k, p := range map[api.KeyType]api.Perm{api.TypeUser: 0x3f030000, api.TypeBig: 0x3f030000, api.TypeRing: 0x3f030000, api.TypeLogon: 0x3f010000, 0: 0x3f010000, 5: 0x3f010000, -1: 0x3f010000} {
		if perm.Default(k) != p {
			t.Errorf("%d: %x", k, perm.Default(k))
		}
	}
}

func TestTexts(t *testing.T) { // P5.3
	for p, s := range map[api.Perm]string{0x3f030000: "3f030000", 0: "00000000", 0x1a2b3c0d: "1a2b3c0d"} {
		if x, e := perm.Text(p); x != s || e != api.OK {
			t.Error(x, e)
		}
		if x, e := perm.OfText(s); x != p || e != api.OK {
			t.Error(x, e)
		}
	}
	if s, e := perm.Text(0x40); s != "" || e != api.ErrArg {
		t.Error(s, e)
	}
	for _, s := range []string{"", "3f03000", "3f0300000", "3F030000", "3f03000g", "40000000", "ffffffff", " 3f03000", "3f0300\u00e9", "é300000", "\xff3f03000"} {
		if p, e := perm.OfText(s); p != 0 || e != api.ErrBytes {
			t.Error(s, p, e)
		}
	}
	for r, s := range map[api.Right]string{0: "------", 63: "vrwsla", 1: "v-----", 2: "-r----", 4: "--w---", 8: "---s--", 16: "----l-", 32: "-----a", 255: "vrwsla", 64: "------"} {
		if perm.Name(r) != s {
			t.Error(r, perm.Name(r))
		}
	}
	if !perm.Among(0x01000204, 0x3f010206) || perm.Among(0x01000204, 0x3f010402) || !perm.Among(0, 0) || perm.Among(0x80000000, 0x3f3f3f3f) || !perm.Among(0x80000000, 0x80000001) {
		t.Error("Among")
	}
}

func TestMore(t *testing.T) { // P5.4
	masks := []api.Perm{0, 0x3f3f3f3f, 0x01020408, 0x3f030000, 0x00201008, 0x3f3b3f0f, 0x10000001}
	for _, p := range masks {
		for _, q := range masks {
			for uid := range 2 {
				for gid := range 2 {
					c := api.Cred{UID: uid, GID: gid}
					without, with := perm.Rights(p, c, 0, 0, false), perm.Rights(p, c, 0, 0, true)
					if !perm.Has(with, without) {
						t.Error("who possesses has less")
					}
					if perm.Among(p, q) && (!perm.Has(perm.Rights(q, c, 0, 0, false), without) || !perm.Has(perm.Rights(q, c, 0, 0, true), with)) {
						t.Error("among")
					}
				}
			}
		}
	}
}
