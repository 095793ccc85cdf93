package restrict_test

import (
	"slices"
	"testing"

	"warder/api"
	"warder/restrict"
)

func types(r api.Restriction) []api.KeyType { return slices.Collect(restrict.Types(r)) }

func TestMayAllowsOnlyTypes(t *testing.T) { // P19.1
	for r := api.Restriction(-2); r < 8; r++ {
		if restrict.May(r) != (r >= 0 && r <= 5) {
			t.Error(r)
		}
		for k := api.KeyType(-1); k < 7; k++ {
			is := k >= 1 && k <= 4 && (r == 0 || int(r) == int(k))
			if restrict.Allows(r, k) != is || slices.Contains(types(r), k) != is {
				t.Error(r, k)
			}
		}
	}
	if !slices.Equal(types(api.RestrictAny), []api.KeyType{1, 2, 3, 4}) || !slices.Equal(types(3), []api.KeyType{3}) || len(types(5)) != 0 {
		t.Error("types")
	}
	for range restrict.Types(api.RestrictAny) {
		break
	}
	for k := api.KeyType(-1); k < 7; k++ {
		r, e := restrict.Only(k)
		if is := k >= 1 && k <= 4; (e == api.OK) != is || is && int(r) != int(k) || !is && (r != 0 || e != api.ErrArg) {
			t.Error(k, r, e)
		}
	}
}

func TestMeetAmong(t *testing.T) { // P19.2
	for _, x := range []struct {
		l []api.Restriction
		r api.Restriction
		e api.Errno
	}{
		{[]api.Restriction{0, 3}, 3, 0}, {[]api.Restriction{3, 0}, 3, 0}, {[]api.Restriction{3, 1}, 5, 0}, {nil, 0, 0}, {[]api.Restriction{0, 0}, 0, 0}, {[]api.Restriction{2, 2, 0}, 2, 0},
		{[]api.Restriction{5, 0}, 5, 0}, {[]api.Restriction{5, 1}, 5, 0}, {[]api.Restriction{5, 5}, 5, 0}, {[]api.Restriction{5, 6}, 0, api.ErrArg}, {[]api.Restriction{-1}, 0, api.ErrArg}, {[]api.Restriction{1, 2, 6}, 0, api.ErrArg},
	} {
		if r, e := restrict.Meet(x.l...); r != x.r || e != x.e {
			t.Error(x, r, e)
		}
	}
	for a := api.Restriction(-1); a < 7; a++ {
		for b := api.Restriction(-1); b < 7; b++ {
			is := true
			for _, k := range types(a) {
				is = is && restrict.Allows(b, k)
			}
			if restrict.Among(a, b) != is {
				t.Error(a, b)
			}
		}
	}
	if !restrict.Among(9, 5) || restrict.Among(1, 9) {
		t.Error("one that may not be lets nothing in")
	}
}

func TestNames(t *testing.T) { // P19.3
	for i, s := range []string{"any", "user", "logon", "big", "ring", "none"} {
		if r, e := restrict.Of(s); r != api.Restriction(i) || e != api.OK || restrict.Name(r) != s {
			t.Error(s, r, e)
		}
	}
	if restrict.Name(-1) != "?" || restrict.Name(6) != "?" {
		t.Error("?")
	}
	for _, s := range []string{"", "?", "Any", "keyring", "none "} {
		if r, e := restrict.Of(s); r != 0 || e != api.ErrBytes {
			t.Error(s, r, e)
		}
	}
}

func TestFollows(t *testing.T) { // P19.4
	for i := range 216 {
		l := []api.Restriction{api.Restriction(i % 6), api.Restriction(i / 6 % 6), api.Restriction(i / 36)}
		m, _ := restrict.Meet(l...)
		other, _ := restrict.Meet(l[2], l[0], l[1], l[0], l[2])
		if m != other {
			t.Error(l)
		}
		for r := range api.Restriction(6) {
			all := true
			for _, x := range l {
				all = all && restrict.Among(r, x)
			}
			if restrict.Among(r, m) != all {
				t.Error(l, r)
			}
		}
	}
}
