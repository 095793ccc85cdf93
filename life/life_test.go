package life_test

import (
	"slices"
	"testing"

	"warder/api"
	"warder/life"
)

func TestLife(t *testing.T) { // P16.1
	for _, x := range []struct {
		r   api.Record
		now uint64
		l   api.Life
	}{
		{api.Record{Expiry: 7}, 6, api.LifeLive}, {api.Record{Expiry: 7}, 7, api.LifeExpired}, {api.Record{Expiry: 7}, 8, api.LifeExpired},
		{api.Record{Expiry: 7, Revoked: true}, 9, api.LifeRevoked}, {api.Record{Expiry: 7, Revoked: true, Dead: true}, 9, api.LifeDead},
		{api.Record{}, 1<<64 - 1, api.LifeLive}, {api.Record{Revoked: true}, 0, api.LifeRevoked}, {api.Record{Dead: true}, 0, api.LifeDead}, {api.Record{Expiry: 1<<64 - 1}, 1<<64 - 2, api.LifeLive},
	} {
		if l := life.Of(x.r, x.now); l != x.l {
			t.Error(x, l)
		}
	}
	for _, x := range []struct {
		r  api.Record
		at uint64
		is bool
	}{{api.Record{Expiry: 7}, 12, true}, {api.Record{}, 0, false}, {api.Record{Expiry: 7, Revoked: true}, 12, true}, {api.Record{Expiry: api.MaxTime}, api.MaxTime + 5, true}, {api.Record{Expiry: api.MaxTime + 1}, api.MaxTime + 5, true}, {api.Record{Expiry: 1<<64 - 1}, api.MaxTime + 5, true}, {api.Record{Expiry: 1}, 6, true}} {
		if at, is := life.Gone(x.r); at != x.at || is != x.is {
			t.Error(x, at, is)
		}
	}
	for l, s := range map[api.Life]string{api.LifeDead: "dead", api.LifeLive: "live", api.LifeRevoked: "revoked", api.LifeExpired: "expired", 4: "?", -1: "?"} {
		if life.Name(l) != s {
			t.Error(l, life.Name(l))
		}
	}
}

func TestPutRemoveAt(t *testing.T) { // P16.2
	for _, x := range []*life.Timers{life.New(), {}} {
		if x.Put(3, 9) != api.OK || x.Put(api.MaxSerial, 0) != api.OK || x.Put(0, 9) != api.ErrArg || x.Put(-1, 9) != api.ErrArg || x.Put(api.MaxSerial+1, 9) != api.ErrArg {
			t.Error("put")
		}
		if at, is := x.At(3); at != 9 || !is {
			t.Error(at, is)
		}
		x.Put(3, 11)
		if at, _ := x.At(3); at != 11 || x.Len() != 2 {
			t.Error(at)
		}
		if at, is := x.At(4); at != 0 || is {
			t.Error(at, is)
		}
		if !x.Remove(3) || x.Remove(3) || x.Remove(4) || x.Len() != 1 {
			t.Error("remove")
		}
	}
	var n *life.Timers
	_, is := n.At(1)
	_, next := n.Next()
	if n.Put(0, 1) != api.ErrNil || n.Remove(1) || is || next || n.Due(9) != nil || n.Len() != 0 {
		t.Error("nil")
	}
}

func TestDueNext(t *testing.T) { // P16.3
	x := life.New()
	x.Put(3, 9)
	x.Put(1, 9)
	x.Put(2, 4)
	x.Put(2, 11)
	if at, is := x.Next(); at != 9 || !is {
		t.Error(at)
	}
	if l := x.Due(8); len(l) != 0 {
		t.Error(l)
	}
	if l := x.Due(9); !slices.Equal(l, []api.Serial{1, 3}) || x.Len() != 1 {
		t.Error(l)
	}
	if at, is := x.Next(); at != 11 || !is {
		t.Error(at)
	}
	x.Put(9, 10)
	if l := x.Due(1<<64 - 1); !slices.Equal(l, []api.Serial{9, 2}) || x.Len() != 0 {
		t.Error(l)
	}
	if at, is := x.Next(); at != 0 || is {
		t.Error(at, is)
	}
}

func TestCopySame(t *testing.T) { // P16.4
	x := life.New()
	x.Put(3, 9)
	x.Put(4, 9)
	y := x.Copy()
	if !x.Same(y) {
		t.Error("copy")
	}
	y.Due(9)
	if x.Len() != 2 || x.Same(y) {
		t.Error("not apart")
	}
	a := life.New()
	a.Put(4, 9)
	a.Put(3, 9)
	if !a.Same(x) {
		t.Error("the same timers, put otherwise")
	}
	a.Put(4, 10)
	var n *life.Timers
	if a.Same(x) || n.Same(x) || x.Same(n) || !n.Same(life.New()) || !life.New().Same(n) || !n.Same(nil) || !y.Same(n) || !n.Same(&life.Timers{}) || n.Copy() != nil {
		t.Error("same")
	}
}

func TestFollows(t *testing.T) { // P16.5
	for seed := 1; seed < 30; seed++ {
		x := life.New()
		for i := 1; i < 40; i++ {
			x.Put(api.Serial(1+i*seed%29), uint64(i*i*seed%50))
		}
		y := x.Copy()
		var l []api.Serial
		for now := uint64(0); now < 50; now += uint64(1 + seed%7) {
			l = append(l, x.Due(now)...)
			if len(x.Due(now)) != 0 {
				t.Fatal("twice")
			}
		}
		l = append(l, x.Due(60)...)
		if !slices.Equal(l, y.Due(60)) {
			t.Fatal(l)
		}
	}
	r := api.Record{Expiry: 6}
	gone, _ := life.Gone(r)
	for now := uint64(0); now < 20; now++ {
		if (life.Of(r, now) == api.LifeExpired) != (now >= 6) || now >= gone && now < 6+api.Delay {
			t.Error(now)
		}
	}
}
