// Package wire is layer 1: numbers and texts as bytes.
package wire

import "warder/api"

const (
	maxSize  = 8
	wholeLow = -1 << 31
	wholeTop = 1<<31 - 1
	blobTop1 = 1<<8 - 1
	blobTop2 = 1<<16 - 1
)

// A reader's states: a zero Reader is no reader.
const (
	none = iota
	reading
	failed
)

// Reader stands at a place in bytes.
type Reader struct {
	rest  []byte
	state int
}

// Put is a number's bytes.
func Put(n uint64, size int) ([]byte, api.Errno) {
	if size < 1 || size > maxSize {
		return nil, api.ErrArg
	}
	if size < maxSize && n>>(8*size) != 0 {
		return nil, api.ErrArg
	}
	b := make([]byte, size)
	for i := range b {
		b[i] = byte(n >> (8 * i))
	}
	return b, api.OK
}

// Whole is a whole number's bytes.
func Whole(n int) ([]byte, api.Errno) {
	if n < wholeLow || n > wholeTop {
		return nil, api.ErrArg
	}
	return Put(uint64(uint32(int32(n))), 4)
}

// Blob is a blob's bytes.
func Blob(b []byte, size int) ([]byte, api.Errno) {
	if size != 1 && size != 2 {
		return nil, api.ErrArg
	}
	if size == 1 && len(b) > blobTop1 || len(b) > blobTop2 {
		return nil, api.ErrLong
	}
	head, e := Put(uint64(len(b)), size)
	if e != api.OK {
		return nil, e
	}
	return Join(head, b), api.OK
}

// Join is all of these, one behind the other.
func Join(l ...[]byte) []byte {
	n := 0
	for _, b := range l {
		n += len(b)
	}
	all := make([]byte, 0, n)
	for _, b := range l {
		all = append(all, b...)
	}
	return all
}

// New is a reader at the front of a copy.
func New(b []byte) *Reader {
	return &Reader{rest: Join(b), state: reading}
}

// take cuts the next n bytes; their capacity ends where they do, so that nobody grows into what is left.
func (r *Reader) take(n int) ([]byte, bool) {
	if r.Failed() || n > len(r.rest) {
		r.fail()
		return nil, false
	}
	b := r.rest[0:n:n]
	r.rest = r.rest[n:]
	return b, true
}

// fail leaves a zero reader as it is: it was never one.
func (r *Reader) fail() {
	if r != nil && r.state == reading {
		r.state = failed
		r.rest = nil
	}
}

// Number takes a number of so many bytes.
func (r *Reader) Number(size int) uint64 {
	if size < 1 || size > maxSize {
		r.fail()
		return 0
	}
	b, ok := r.take(size)
	if !ok {
		return 0
	}
	var n uint64
	i := len(b)
next:
	i--
	n = n<<8 | uint64(b[i])
	if i > 0 {
		goto next
	}
	return n
}

// Whole takes a whole number.
func (r *Reader) Whole() int {
	return int(int32(uint32(r.Number(4))))
}

// Blob takes a blob's bytes.
func (r *Reader) Blob(size int) []byte {
	if size != 1 && size != 2 {
		r.fail()
		return nil
	}
	n := int(r.Number(size))
	if r.Failed() {
		return nil
	}
	b, ok := r.take(n)
	if !ok {
		return nil
	}
	return Join(b)
}

// Left is how many bytes are left.
func (r *Reader) Left() int {
	if r.Failed() {
		return 0
	}
	return len(r.rest)
}

// Failed tells whether a reading took nothing; no reader counts as one that failed.
func (r *Reader) Failed() bool {
	return r == nil || r.state != reading
}

// End tells whether all was read.
func (r *Reader) End() api.Errno {
	if r == nil || r.state == none {
		return api.ErrNil
	}
	if r.state == failed || len(r.rest) > 0 {
		return api.ErrBytes
	}
	return api.OK
}
