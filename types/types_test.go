package types_test

import (
	"slices"
	"testing"

	"warder/api"
	"warder/types"
)

func TestTable(t *testing.T) { // P14.1
	for _, x := range []struct {
		t                  api.KeyType
		least, most        int
		read, update, ring bool
	}{
		{api.TypeUser, 1, 128, true, true, false}, {api.TypeLogon, 1, 64, false, true, false},
		{api.TypeBig, 1, 256, true, true, false}, {api.TypeRing, 0, 0, true, false, true},
	} {
		if !types.May(x.t) || types.Least(x.t) != x.least || types.Most(x.t) != x.most || types.CanRead(x.t) != x.read || types.CanUpdate(x.t) != x.update || types.IsRing(x.t) != x.ring {
			t.Error(x)
		}
		for n := -1; n < 300; n++ {
			if types.MayPayload(x.t, n) != (n >= x.least && n <= x.most) {
				t.Error(x, n)
			}
		}
	}
	for _, x := range []api.KeyType{0, 5, -1, 1 << 40, -1 << 63} {
		if types.May(x) || types.MayPayload(x, 0) || types.MayPayload(x, 1) || types.Least(x) != 0 || types.Most(x) != 0 || types.CanRead(x) || types.CanUpdate(x) || types.IsRing(x) {
			t.Error(x)
		}
	}
}

func TestCharge(t *testing.T) { // P14.2
	for _, x := range []struct {
		t          api.KeyType
		desc, size int
		n          uint64
	}{
		{api.TypeUser, 3, 10, 14}, {api.TypeRing, 3, 0, 20}, {api.TypeRing, 3, -5, 20}, {api.TypeRing, 3, 999, 20}, {api.TypeLogon, 3, 65, 0}, {api.TypeLogon, 3, 64, 68},
		{api.TypeUser, 0, 1, 2}, {api.TypeUser, 32, 128, 161}, {api.TypeUser, 33, 1, 0}, {api.TypeUser, -1, 1, 0}, {api.TypeUser, 3, 0, 0}, {api.TypeRing, 33, 0, 0}, {api.TypeRing, -1, 0, 0}, {api.TypeBig, 32, 256, 289}, {5, 3, 10, 0}, {0, 3, 0, 0},
	} {
		if n := types.Charge(x.t, x.desc, x.size); n != x.n {
			t.Error(x, n)
		}
	}
}

func TestNames(t *testing.T) { // P14.3
	for x, s := range map[api.KeyType]string{1: "user", 2: "logon", 3: "big", 4: "keyring"} {
		if y, e := types.Of(s); types.Name(x) != s || y != x || e != api.OK {
			t.Error(x, s)
		}
	}
	for _, s := range []string{"", "User", "ring", "keyrings", " user"} {
		if y, e := types.Of(s); y != 0 || e != api.ErrNone {
			t.Error(s, y, e)
		}
	}
	if types.Name(0) != "" || types.Name(5) != "" || types.Name(-9) != "" {
		t.Error("of none")
	}
	l := types.All()
	if !slices.Equal(l, []api.KeyType{1, 2, 3, 4}) {
		t.Error(l)
	}
	if l[0] = 9; types.All()[0] != 1 {
		t.Error("shares memory")
	}
}

func TestFollows(t *testing.T) { // P14.4
	names := map[string]bool{}
	for _, x := range types.All() {
		if names[types.Name(x)] {
			t.Error(x)
		}
		names[types.Name(x)] = true
		for d := 0; d <= api.MaxDesc; d++ {
			for n := types.Least(x); n <= types.Most(x); n++ {
				c := types.Charge(x, d, n)
				if c > api.MaxDesc+1+api.MaxPayload || n > types.Least(x) && c <= types.Charge(x, d, n-1) {
					t.Error(x, d, n)
				}
			}
		}
	}
}
