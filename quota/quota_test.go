package quota_test

import (
	"testing"

	"warder/api"
	"warder/quota"
)

const most = 1<<64 - 1

func want(t *testing.T, what string, got, e api.Errno) {
	t.Helper()
	if got != e {
		t.Errorf("%s: %d, not %d", what, got, e)
	}
}

func used(t *testing.T, q *quota.Quota, uid int, keys, bytes uint64) {
	t.Helper()
	if k, b := q.Of(uid); k != keys || b != bytes {
		t.Errorf("user %d: %d %d, not %d %d", uid, k, b, keys, bytes)
	}
}

func TestChargeRelease(t *testing.T) { // P4.1
	for _, c := range []struct {
		users       int
		keys, bytes uint64
		e           api.Errno
	}{{0, 1, 1, api.ErrArg}, {17, 1, 1, api.ErrArg}, {-1, 1, 1, api.ErrArg}, {16, api.MaxLimit, api.MaxLimit, api.OK}, {1, 0, 0, api.OK}, {1, api.MaxLimit + 1, 0, api.ErrArg}, {1, 0, api.MaxLimit + 1, api.ErrArg}, {1, most, most, api.ErrArg}} {
		if q, e := quota.New(c.users, c.keys, c.bytes); e != c.e || (q == nil) != (e != api.OK) {
			t.Error(c, e)
		}
	}
	q, _ := quota.New(2, 2, 100)
	want(t, "charge", q.Charge(0, 1, 60), api.OK)
	want(t, "charge", q.Charge(0, 1, 60), api.ErrQuota)
	want(t, "change", q.Change(0, 60, 100), api.OK)
	used(t, q, 0, 1, 100)
	want(t, "release", q.Release(0, 2, 0), api.ErrState)
	want(t, "release", q.Release(0, 0, 101), api.ErrState)
	want(t, "release", q.Release(0, most, most), api.ErrState)
	want(t, "charge", q.Charge(0, 1, 0), api.OK)
	want(t, "charge", q.Charge(0, 1, 0), api.ErrQuota)
	want(t, "charge", q.Charge(0, most, 0), api.ErrQuota)
	want(t, "charge", q.Charge(0, 0, most-99), api.ErrQuota)
	used(t, q, 0, 2, 100)
	used(t, q, 1, 0, 0)
	want(t, "release", q.Release(0, 2, 100), api.OK)
	used(t, q, 0, 0, 0)
	for _, uid := range []int{-1, 2, 99} {
		want(t, "no such user", q.Charge(uid, most, 0), api.ErrArg)
		want(t, "no such user", q.Release(uid, most, 0), api.ErrArg)
		want(t, "no such user", q.Change(uid, most, 0), api.ErrArg)
		want(t, "no such user", q.Move(uid, 0, most, 0), api.ErrArg)
		want(t, "no such user", q.Move(0, uid, most, 0), api.ErrArg)
	}
}

func TestChangeMove(t *testing.T) { // P4.2
	q, _ := quota.New(3, 2, 100)
	q.Charge(0, 2, 80)
	q.Charge(1, 1, 10)
	want(t, "change", q.Change(0, 81, 0), api.ErrState)
	want(t, "change", q.Change(0, 81, most), api.ErrState)
	want(t, "change", q.Change(0, 80, 101), api.ErrQuota)
	want(t, "change", q.Change(0, 0, most), api.ErrQuota)
	want(t, "change", q.Change(0, 80, 100), api.OK)
	want(t, "change", q.Change(0, 100, 80), api.OK)
	used(t, q, 0, 2, 80)
	want(t, "move", q.Move(0, 1, 3, 0), api.ErrState)
	want(t, "move", q.Move(0, 1, 0, 81), api.ErrState)
	want(t, "move", q.Move(0, 1, 2, 81), api.ErrState)
	want(t, "move", q.Move(0, 1, 2, 0), api.ErrQuota)
	want(t, "move", q.Move(0, 1, 3, 91), api.ErrState)
	q.Charge(0, 0, 20)
	want(t, "move", q.Move(0, 1, 0, 91), api.ErrQuota)
	want(t, "move", q.Move(0, 1, 1, 90), api.OK)
	used(t, q, 0, 1, 10)
	used(t, q, 1, 2, 100)
	want(t, "move", q.Move(1, 1, 2, 100), api.OK)
	want(t, "move", q.Move(1, 1, 3, 100), api.ErrState)
	used(t, q, 1, 2, 100)
}

func TestLooksCopySame(t *testing.T) { // P4.3
	q, _ := quota.New(2, 5, 7)
	q.Charge(1, 2, 3)
	k, b := q.Limits()
	if q.Users() != 2 || k != 5 || b != 7 {
		t.Error(q.Users(), k, b)
	}
	used(t, q, 2, 0, 0)
	used(t, q, -1, 0, 0)
	o := q.Copy()
	if !q.Same(o) {
		t.Error("a copy")
	}
	o.Charge(0, 0, 1)
	used(t, q, 0, 0, 0)
	if q.Same(o) {
		t.Error("uses")
	}
	for _, c := range [][3]uint64{{3, 5, 7}, {2, 6, 7}, {2, 5, 6}} {
		x, _ := quota.New(int(c[0]), c[1], c[2])
		y, _ := quota.New(2, 5, 7)
		if x.Same(y) {
			t.Error(c)
		}
	}
	for _, n := range []*quota.Quota{nil, {}} {
		want(t, "nil", n.Charge(-1, 1, 1), api.ErrNil)
		want(t, "nil", n.Release(0, 1, 1), api.ErrNil)
		want(t, "nil", n.Change(0, 1, 1), api.ErrNil)
		want(t, "nil", n.Move(0, 0, 1, 1), api.ErrNil)
		k, b := n.Limits()
		used(t, n, 0, 0, 0)
		if n.Users() != 0 || k != 0 || b != 0 || n.Copy() != nil || n.Same(q) || q.Same(n) || !n.Same(nil) {
			t.Error("nil")
		}
	}
}

func TestNeverAbove(t *testing.T) { // P4.4
	q, _ := quota.New(3, 4, 50)
	numbers := []uint64{0, 1, 2, 4, 5, 25, 49, 50, 51, 1 << 32, 1 << 63, most - 1, most}
	n := func(i int) uint64 { return numbers[i%len(numbers)] }
	for i := 0; i < 20000; i++ {
		a, b := n(i*7+i/13), n(i*5+i/7)
		was := q.Copy()
		var e api.Errno
		move := false
		switch i % 4 {
		case 0:
			e = q.Charge(i%3, a, b)
		case 1:
			e = q.Release(i/2%3, a%3, b)
		case 2:
			e = q.Change(i%3, a, b)
		default:
			e, move = q.Move(i%3, i/5%3, a%3, b), true
		}
		if e != api.OK && !q.Same(was) {
			t.Fatal("refused, and changed")
		}
		var keys, bytes, hadKeys, hadBytes uint64
		for u := range 3 {
			k, b := q.Of(u)
			if k > 4 || b > 50 {
				t.Fatal("above a limit")
			}
			hk, hb := was.Of(u)
			keys, bytes, hadKeys, hadBytes = keys+k, bytes+b, hadKeys+hk, hadBytes+hb
		}
		if move && (keys != hadKeys || bytes != hadBytes) {
			t.Fatal("a move changes a sum")
		}
	}
}
