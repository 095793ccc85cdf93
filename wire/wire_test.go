package wire_test

import (
	"bytes"
	"testing"

	"warder/api"
	"warder/wire"
)

func TestPutWholeBlobJoin(t *testing.T) { // P1.1
	put := func(n uint64, size int, want []byte, e api.Errno) {
		t.Helper()
		if b, got := wire.Put(n, size); got != e || !bytes.Equal(b, want) {
			t.Errorf("Put(%d, %d): %v %v", n, size, b, got)
		}
	}
	put(258, 2, []byte{2, 1}, api.OK)
	put(256, 1, nil, api.ErrArg)
	put(255, 1, []byte{255}, api.OK)
	put(1<<56-1, 7, []byte{255, 255, 255, 255, 255, 255, 255}, api.OK)
	put(1<<56, 7, nil, api.ErrArg)
	put(1<<64-1, 8, bytes.Repeat([]byte{255}, 8), api.OK)
	put(0, 0, nil, api.ErrArg)
	put(0, -1, nil, api.ErrArg)
	put(0, 9, nil, api.ErrArg)
	whole := func(n int, want []byte, e api.Errno) {
		t.Helper()
		if b, got := wire.Whole(n); got != e || !bytes.Equal(b, want) {
			t.Errorf("Whole(%d): %v %v", n, b, got)
		}
	}
	whole(-2, []byte{254, 255, 255, 255}, api.OK)
	whole(-1<<31, []byte{0, 0, 0, 128}, api.OK)
	whole(1<<31-1, []byte{255, 255, 255, 127}, api.OK)
	whole(1<<31, nil, api.ErrArg)
	whole(-1<<31-1, nil, api.ErrArg)
	blob := func(n, size int, e api.Errno) {
		t.Helper()
		b, got := wire.Blob(make([]byte, n), size)
		if got != e || e == api.OK && len(b) != n+size || e != api.OK && len(b) != 0 {
			t.Errorf("Blob(%d, %d): %v", n, size, got)
		}
	}
	blob(0, 1, api.OK)
	blob(255, 1, api.OK)
	blob(256, 1, api.ErrLong)
	blob(65535, 2, api.OK)
	blob(65536, 2, api.ErrLong)
	blob(65536, 0, api.ErrArg)
	blob(1, 3, api.ErrArg)
	if b, _ := wire.Blob([]byte("ab"), 1); string(b) != "\x02ab" {
		t.Error(b)
	}
	x := []byte("x")
	j := wire.Join(x, nil, []byte("yz"))
	if string(j) != "xyz" || len(wire.Join()) != 0 {
		t.Error(j)
	}
	if j[0] = 'q'; x[0] != 'x' {
		t.Error("Join shares memory")
	}
}

func TestReader(t *testing.T) { // P1.2, P1.3
	r := wire.New([]byte{1, 7, 9})
	if b := r.Blob(1); string(b) != "\x07" || r.Left() != 1 {
		t.Error(b)
	}
	if r.Number(2) != 0 || !r.Failed() || r.Left() != 0 || r.End() != api.ErrBytes {
		t.Error("not failed")
	}
	if r.Number(1) != 0 || r.Whole() != 0 || len(r.Blob(1)) != 0 {
		t.Error("read on behind a failure")
	}
	for _, f := range []func(r *wire.Reader){
		func(r *wire.Reader) { r.Number(0) }, func(r *wire.Reader) { r.Number(9) }, func(r *wire.Reader) { r.Number(-1) },
		func(r *wire.Reader) { r.Blob(0) }, func(r *wire.Reader) { r.Blob(3) }, func(r *wire.Reader) { r.Whole() }, func(r *wire.Reader) { r.Blob(1) },
	} {
		if r := wire.New([]byte{200, 1, 1}); r.Failed() || r.Left() != 3 {
			t.Error("fails at once")
		} else if f(r); !r.Failed() || r.Left() != 0 || r.End() != api.ErrBytes {
			t.Error("did not fail")
		}
	}
	b := []byte{5, 0}
	r = wire.New(b)
	b[0] = 6
	if r.Number(1) != 5 || r.End() != api.ErrBytes || r.Failed() || r.Number(1) != 0 || r.End() != api.OK {
		t.Error("no copy, or no end")
	}
	if wire.New(nil).End() != api.OK || wire.New(nil).Failed() {
		t.Error("of no bytes")
	}
	for _, r := range []*wire.Reader{nil, {}} {
		if r.Number(1) != 0 || r.Number(0) != 0 || r.Whole() != 0 || r.Blob(1) != nil || r.Left() != 0 || !r.Failed() || r.End() != api.ErrNil {
			t.Error("of no reader")
		}
	}
}

func TestReadAsPut(t *testing.T) { // P1.4
	n, _ := wire.Put(77777, 3)
	w, _ := wire.Whole(-99)
	s, _ := wire.Blob([]byte("some text"), 2)
	e, _ := wire.Blob(nil, 1)
	all := wire.Join(n, w, s, e)
	for cut := 0; cut <= len(all); cut++ {
		r := wire.New(all[:cut])
		a, b, c, d := r.Number(3), r.Whole(), r.Blob(2), r.Blob(1)
		whole := a == 77777 && b == -99 && string(c) == "some text" && len(d) == 0 && r.End() == api.OK
		if whole != (cut == len(all)) || r.Failed() != (cut < len(all)) {
			t.Error(cut, a, b, c, d)
		}
	}
	r := wire.New(append(wire.Join(all), 0))
	r.Number(3)
	r.Whole()
	c := r.Blob(2)
	if c[0] = 'x'; cap(c) < len(c) || r.Left() != 2 {
		t.Error("shares memory")
	}
}
