package spread_test

import (
	"math"
	"strconv"
	"testing"

	"warder/api"
	"warder/nibble"
	"warder/spread"
)

func near(z complex128, re, im float64) bool {
	return math.Abs(real(z)-re) < 1e-12 && math.Abs(imag(z)-im) < 1e-12
}

func TestCountMay(t *testing.T) { // P31.1
	var l []api.Index
	for i := range 300 {
		l = append(l, api.Index{Type: api.KeyType(1 + i%4), Desc: "k" + strconv.Itoa(i)})
	}
	for place := range 4 {
		var want [16]int
		for _, x := range l {
			want[nibble.Of(x)[place]]++
		}
		if n, e := spread.Count(place, l...); n != want || e != api.OK {
			t.Error(place, n, e)
		}
	}
	if n, e := spread.Count(0); n != [16]int{} || e != api.OK {
		t.Error(n, e)
	}
	long := make([]api.Index, 1<<20+1)
	for i := range long {
		long[i] = l[0]
	}
	if n, e := spread.Count(1, long...); n != [16]int{} || e != api.ErrLong {
		t.Error(e)
	}
	if n, e := spread.Count(1, long[1:]...); n[nibble.Of(l[0])[1]] != 1<<20 || e != api.OK {
		t.Error(e)
	}
	long[1<<20] = api.Index{}
	for _, x := range []struct {
		place int
		l     []api.Index
	}{{1, long}, {-1, l}, {4, l}, {0, []api.Index{l[0], {Type: 1}}}, {4, nil}} {
		if n, e := spread.Count(x.place, x.l...); n != [16]int{} || e != api.ErrArg {
			t.Error(x.place, e)
		}
	}
	for x, is := range map[int]bool{0: true, 1 << 20: true, 1<<20 + 1: false, -1: false} {
		if spread.May([16]int{15: x}) != is {
			t.Error(x)
		}
	}
}

func TestDirections(t *testing.T) { // P31.2
	for k := -40; k < 40; k++ {
		z := spread.Direction(k)
		a := float64(k) * math.Pi / 8
		if !near(z, math.Cos(a), math.Sin(a)) || z != spread.Direction(k+16) || real(z) == 0 && math.Signbit(real(z)) || imag(z) == 0 && math.Signbit(imag(z)) {
			t.Error(k, z)
		}
	}
	for k, z := range map[int]complex128{0: 1, 4: 1i, 8: -1, 12: -1i, 1: complex(0.9238795325112867, 0.3826834323650898), 2: complex(0.7071067811865476, 0.7071067811865476), 11: complex(-0.3826834323650898, -0.9238795325112867)} {
		if spread.Direction(k) != z {
			t.Error(k, spread.Direction(k))
		}
	}
	for i, x := range []struct {
		n [16]int
		z complex128
	}{{[16]int{1}, 1}, {[16]int{4: 1}, 1i}, {[16]int{0: 1, 8: 1}, 0}, {[16]int{}, 0}, {[16]int{0: 3, 4: 1}, complex(0.75, 0.25)}} {
		if z, e := spread.Tilt(x.n); z != x.z || e != api.OK {
			t.Error(i, z, e)
		}
	}
	bad := [16]int{3: -1}
	if z, e := spread.Tilt(bad); z != 0 || e != api.ErrArg {
		t.Error(z, e)
	}
	if l, e := spread.Spectrum(bad); l != [16]complex128{} || e != api.ErrArg {
		t.Error(l, e)
	}
	n := [16]int{5, 0, 3, 1, 0, 0, 9, 2, 0, 7, 0, 0, 1, 0, 0, 4}
	l, e := spread.Spectrum(n)
	for j := range l {
		var z complex128
		for k, x := range n {
			z += complex(float64(x), 0) * spread.Direction(j*k)
		}
		if !near(l[j]-z, 0, 0) || e != api.OK {
			t.Error(j, l[j], z)
		}
	}
}

func TestLengthTurned(t *testing.T) { // P31.3
	for z, x := range map[complex128]float64{3 + 4i: 5, -5 + 12i: 13, 0: 0, complex(math.Inf(-1), 1): math.Inf(1), complex(1e200, 0): math.Inf(1)} {
		if spread.Length(z) != x {
			t.Error(z, spread.Length(z))
		}
	}
	if !math.IsNaN(spread.Length(complex(math.Inf(1), math.NaN()))) {
		t.Error("NaN")
	}
	z := complex(2, -3)
	for k := -20; k < 20; k++ {
		w := z * spread.Direction(k)
		if !near(spread.Turned(z, k)-w, 0, 0) {
			t.Error(k)
		}
	}
	if spread.Turned(z, 4) != 3+2i || spread.Turned(z, 8) != -z || spread.Turned(z, 16) != z || spread.Turned(z, -4) != complex(-3, -2) {
		t.Error(spread.Turned(z, 4))
	}
}

func TestTexts(t *testing.T) { // P31.4
	for s, z := range map[string]complex128{"3ff0000000000000 0000000000000000": 1, "0000000000000000 c000000000000000": -2i, "8000000000000000 7ff0000000000000": complex(math.Copysign(0, -1), math.Inf(1))} {
		if x, e := spread.Text(z); x != s || e != api.OK {
			t.Error(z, x, e)
		}
		if x, e := spread.Of(s); x != z || e != api.OK || math.Signbit(real(x)) != math.Signbit(real(z)) {
			t.Error(s, x, e)
		}
	}
	for _, z := range []complex128{complex(math.NaN(), 0), complex(0, math.NaN())} {
		if s, e := spread.Text(z); s != "" || e != api.ErrArg {
			t.Error(s, e)
		}
	}
	for _, s := range []string{"", "3ff0000000000000", "3ff0000000000000  0000000000000000", "3ff0000000000000 000000000000000", "3FF0000000000000 0000000000000000", "3ff0000000000000 0000000000000000 ", "7ff8000000000001 0000000000000000", "3ff0000000000000 fff0000000000001", "3ff000000000000g 0000000000000000", "0x3ff00000000000 0000000000000000", "3ff0000000000000_0000000000000000"} {
		if z, e := spread.Of(s); z != 0 || e != api.ErrBytes {
			t.Error(s, z, e)
		}
	}
}

func TestFollows(t *testing.T) { // P31.5
	x := 1
	for i := range 300 {
		var n, same [16]int
		all := 0
		for k := range n {
			x = x*1103515245 + 12345
			n[k] = x >> 16 & 0x7fff % (1 + i)
			all += n[k]
			same[k] = i
		}
		l, _ := spread.Spectrum(n)
		if l[0] != complex(float64(all), 0) {
			t.Error(l[0])
		}
		for j := 1; j < 16; j++ {
			if d := l[16-j] - complex(real(l[j]), -imag(l[j])); spread.Length(d) > 1e-6 {
				t.Error(j, d)
			}
		}
		z, _ := spread.Tilt(n)
		if spread.Length(z) > 1.000001 {
			t.Error(z)
		}
		if z, _ := spread.Tilt(same); spread.Length(z) > 0.000001 {
			t.Error(z)
		}
		s, _ := spread.Text(z)
		if y, e := spread.Of(s); y != z || e != api.OK {
			t.Error(s)
		}
	}
}
