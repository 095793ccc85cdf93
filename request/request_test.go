package request_test

import (
	"bytes"
	"strings"
	"testing"

	"warder/api"
	"warder/request"
)

func user(d string) api.Index { return api.Index{Type: api.TypeUser, Desc: d} }

func ring(d string) api.Index { return api.Index{Type: api.TypeRing, Desc: d} }

func good() []api.Call {
	return []api.Call{
		{Op: api.OpAdd, Ring: 1, Index: user("a"), Payload: "xy"}, {Op: api.OpAdd, Ring: api.SpecUser, Index: ring("r")}, {Op: api.OpAdd, Ring: api.SpecThread, Index: api.Index{Type: 3, Desc: "b"}, Payload: strings.Repeat("p", 256)},
		{Op: api.OpRequest, Index: user("a")}, {Op: api.OpSearch, Ring: api.MaxSerial, Index: ring("x")}, {Op: api.OpRead, Key: 258}, {Op: api.OpRead, Key: api.SpecSession},
		{Op: api.OpUpdate, Key: 1, Payload: "p"}, {Op: api.OpUpdate, Key: 1, Payload: strings.Repeat("p", 256)}, {Op: api.OpDescribe, Key: 1}, {Op: api.OpLink, Key: 1, Ring: -3}, {Op: api.OpUnlink, Key: -1, Ring: 3},
		{Op: api.OpMove, Key: 1, Ring: 2, To: 3}, {Op: api.OpClear, Ring: 2}, {Op: api.OpSetPerm, Key: 1, Perm: 0x3f3f3f3f}, {Op: api.OpSetPerm, Key: 1}, {Op: api.OpChown, Key: 1, UID: 15, GID: 15}, {Op: api.OpChown, Key: 1},
		{Op: api.OpTimeout, Key: 1}, {Op: api.OpTimeout, Key: 1, Time: 1 << 39}, {Op: api.OpRevoke, Key: 1}, {Op: api.OpInvalidate, Key: 1}, {Op: api.OpRestrict, Ring: 1, Restrict: 5}, {Op: api.OpRestrict, Ring: 1, Restrict: 1},
		{Op: api.OpGet, Key: -1, Create: true}, {Op: api.OpGet, Key: -4}, {Op: api.OpJoin, Index: ring("s")},
	}
}

func bad() []api.Call {
	return []api.Call{
		{}, {Op: 19, Key: 1}, {Op: -1, Key: 1}, {Op: api.OpAdd, Ring: 1, Index: user("a")}, {Op: api.OpAdd, Ring: 1, Index: user("a"), Payload: strings.Repeat("p", 129)}, {Op: api.OpAdd, Ring: 1, Index: ring("a"), Payload: "x"}, {Op: api.OpAdd, Index: user("a"), Payload: "x"}, {Op: api.OpAdd, Ring: 1, Index: user("a;"), Payload: "x"}, {Op: api.OpAdd, Ring: -5, Index: user("a"), Payload: "x"},
		{Op: api.OpRequest, Index: user("")}, {Op: api.OpRequest, Index: user("a"), Ring: 1}, {Op: api.OpRequest, Index: api.Index{Type: 257, Desc: "a"}}, {Op: api.OpSearch, Ring: api.MaxSerial + 1, Index: user("a")}, {Op: api.OpRead}, {Op: api.OpRead, Key: 1, Ring: 2}, {Op: api.OpRead, Key: 1, Create: true}, {Op: api.OpRead, Key: 1<<32 + 1},
		{Op: api.OpUpdate, Key: 1}, {Op: api.OpUpdate, Key: 1, Payload: strings.Repeat("p", 257)}, {Op: api.OpLink, Key: 1}, {Op: api.OpMove, Key: 1, Ring: 2}, {Op: api.OpSetPerm, Key: 1, Perm: 0x40}, {Op: api.OpChown, Key: 1, UID: 16}, {Op: api.OpChown, Key: 1, GID: 16}, {Op: api.OpChown, Key: 1, GID: -1}, {Op: api.OpChown, Key: 1, UID: -1},
		{Op: api.OpTimeout, Key: 1, Time: 1<<39 + 1}, {Op: api.OpRestrict, Ring: 1}, {Op: api.OpRestrict, Ring: 1, Restrict: 6}, {Op: api.OpRestrict, Ring: 1, Restrict: -1}, {Op: api.OpRestrict, Ring: 1, Key: 1, Restrict: 1}, {Op: api.OpGet, Key: 1}, {Op: api.OpGet}, {Op: api.OpGet, Key: -5}, {Op: api.OpJoin, Index: user("s")}, {Op: api.OpJoin}, {Op: api.OpJoin, Index: ring("s"), Key: 1}, {Op: api.OpClear, Ring: 2, UID: 1},
	}
}

func TestCalls(t *testing.T) { // P21.1
	for _, c := range good() {
		b, e := request.Bytes(c)
		if !request.May(c) || e != api.OK {
			t.Error(c, e)
		}
		if d, e := request.Of(b); d != c || e != api.OK {
			t.Error(c, d, e)
		}
	}
	for _, c := range bad() {
		if b, e := request.Bytes(c); request.May(c) || b != nil || e != api.ErrArg {
			t.Error(c, b, e)
		}
	}
	for _, x := range []struct {
		c api.Call
		b string
	}{
		{api.Call{Op: api.OpRead, Key: 258}, "\x04\x02\x01\x00\x00"}, {api.Call{Op: api.OpLink, Key: 1, Ring: -3}, "\x07\x01\x00\x00\x00\xfd\xff\xff\xff"}, {api.Call{Op: api.OpAdd, Ring: 1, Index: user("a"), Payload: "xy"}, "\x01\x01\x00\x00\x00\x01\x01a\x02\x00xy"},
		{api.Call{Op: api.OpJoin, Index: ring("se")}, "\x12\x02se"}, {api.Call{Op: api.OpGet, Key: -1, Create: true}, "\x11\xff\xff\xff\xff\x01"}, {api.Call{Op: api.OpSetPerm, Key: 1, Perm: 0x3f020100}, "\x0b\x01\x00\x00\x00\x00\x01\x02\x3f"},
		{api.Call{Op: api.OpChown, Key: 1, UID: 3, GID: 4}, "\x0c\x01\x00\x00\x00\x03\x04"}, {api.Call{Op: api.OpTimeout, Key: 1, Time: 258}, "\x0d\x01\x00\x00\x00\x02\x01\x00\x00\x00\x00\x00\x00"}, {api.Call{Op: api.OpRestrict, Ring: 1, Restrict: 5}, "\x10\x01\x00\x00\x00\x05"},
		{api.Call{Op: api.OpMove, Key: 1, Ring: 2, To: 3}, "\x09\x01\x00\x00\x00\x02\x00\x00\x00\x03\x00\x00\x00"}, {api.Call{Op: api.OpSearch, Ring: 2, Index: user("q")}, "\x03\x02\x00\x00\x00\x01\x01q"},
	} {
		if b, e := request.Bytes(x.c); string(b) != x.b || e != api.OK {
			t.Errorf("%v: %x", x.c, b)
		}
	}
	for _, b := range []string{"", "\x00", "\x13\x01\x00\x00\x00", "\x11\x01\x00\x00\x00\x01", "\x11\xff\xff\xff\xff\x02", "\x04\x00\x00\x00\x00", "\x04\xfb\xff\xff\xff", "\x10\x01\x00\x00\x00\x00", "\x0c\x01\x00\x00\x00\x10\x00", "\x02\x05\x01a", "\x02\x01\x00", "\x01\x01\x00\x00\x00\x01\x01a\x00\x00", "\x04\x01\x00\x00\x40", "\x05\x01\x00\x00\x00\x00\x00"} {
		if c, e := request.Of([]byte(b)); c != (api.Call{}) || e != api.ErrArg {
			t.Errorf("%x: %v", b, c)
		}
	}
}

func TestNames(t *testing.T) { // P21.2
	l := strings.Fields("add request search read update describe link unlink move clear setperm chown timeout revoke invalidate restrict get join")
	allocates := map[string]bool{"add": true, "update": true, "link": true, "unlink": true, "move": true, "get": true, "join": true}
	for i, s := range l {
		o := api.Op(i + 1)
		if x, e := request.OfName(s); x != o || e != api.OK || request.Name(o) != s || request.Allocates(o) != allocates[s] {
			t.Error(s, x, e)
		}
	}
	for _, o := range []api.Op{0, 19, -1} {
		if request.Name(o) != "" || request.Allocates(o) {
			t.Error(o)
		}
	}
	for _, s := range []string{"", "Add", "adds", " add"} {
		if x, e := request.OfName(s); x != 0 || e != api.ErrArg {
			t.Error(s, x, e)
		}
	}
}

func TestResponses(t *testing.T) { // P21.3
	for _, r := range []api.Response{{}, {Code: 4, Value: -1}, {Code: api.ErrState, Value: 1<<31 - 1, Bytes: "abc"}, {Value: -1 << 31, Bytes: strings.Repeat("x", 65535)}} {
		b, e := request.ResponseBytes(r)
		if e != api.OK {
			t.Error(r, e)
		}
		if q, e := request.OfResponse(b); q != r || e != api.OK {
			t.Error(r, q, e)
		}
		if _, e := request.OfResponse(append(bytes.Clone(b), 0)); e != api.ErrArg {
			t.Error("some behind")
		}
		if _, e := request.OfResponse(b[:len(b)-1]); e != api.ErrArg {
			t.Error("cut")
		}
	}
	if b, _ := request.ResponseBytes(api.Response{Code: 4, Value: -1}); string(b) != "\x04\xff\xff\xff\xff\x00\x00" {
		t.Error(b)
	}
	for _, r := range []api.Response{{Code: -1}, {Code: 19}, {Value: 1 << 31}, {Value: -1<<31 - 1}, {Bytes: strings.Repeat("x", 65536)}} {
		if b, e := request.ResponseBytes(r); b != nil || e != api.ErrArg {
			t.Error(r.Code, e)
		}
	}
	if r, e := request.OfResponse([]byte("\x13\x00\x00\x00\x00\x00\x00")); r != (api.Response{}) || e != api.ErrArg {
		t.Error(r, e)
	}
}

func TestNoOthers(t *testing.T) { // P21.4
	for _, c := range good() {
		b, _ := request.Bytes(c)
		for i := range b {
			if _, e := request.Of(b[:i]); e != api.ErrArg {
				t.Error("cut", c, i)
			}
			for _, x := range []byte{0, 1, 2, 4, 5, 16, 64, 255} {
				m := bytes.Clone(b)
				m[i] = x
				if d, e := request.Of(m); e == api.OK {
					if k, _ := request.Bytes(d); !bytes.Equal(k, m) {
						t.Error(c, d)
					}
				}
			}
		}
		if _, e := request.Of(append(bytes.Clone(b), 0)); e != api.ErrArg {
			t.Error("some behind", c)
		}
	}
}
