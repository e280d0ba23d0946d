// Package code is layer 1, numbers and texts as bytes: see shared/doc/01-code.md.
package code

import (
	"courant/api"
)

const (
	more      = 0x80 // set in each byte of a number but its last
	low       = 0x7f // the bits of a byte that carry the number
	lastPlace = 9    // of the tenth byte, which has room for bit 63 alone
)

// Reader reads numbers and texts from bytes of its own, until its first fault.
type Reader struct {
	rest  []byte
	fault api.Errno
}

// Num is v as bytes, seven bits each, the lowest first.
func Num(v uint64) []byte {
	var out []byte
	for v > low {
		out = append(out, byte(v&low)|more)
		v >>= 7
	}
	return append(out, byte(v))
}

// Zig is v as bytes, such that numbers near 0 are short on both of its sides.
func Zig(v int64) []byte {
	if v >= 0 {
		return Num(2 * uint64(v))
	}
	// One is added first, as the lowest number has no counterpart above 0.
	return Num(2*uint64(-(v+1)) + 1)
}

// Text is the length of b, as by Zig, and b.
func Text(b []byte) []byte {
	return append(Zig(int64(len(b))), b...)
}

// New is a reader at the first byte of a copy of b.
func New(b []byte) *Reader {
	return &Reader{rest: clone(b)}
}

// Num reads a number that Num wrote.
func (r *Reader) Num() uint64 {
	if r.Err() != api.OK {
		return 0
	}
	v, size, fault := number(r.rest)
	r.rest, r.fault = r.rest[size:], fault
	return v
}

// Zig reads a number that Zig wrote; 0 at a fault.
func (r *Reader) Zig() int64 {
	v := r.Num()
	half := int64(v / 2)
	if v%2 == 0 {
		return half
	}
	return -half - 1
}

// Text reads a text of at most so many bytes that Text wrote.
func (r *Reader) Text(most int) []byte {
	if r.Err() != api.OK {
		return nil
	}
	start := r.rest
	length := r.Zig()
	if fault := r.textFault(length, most); fault != api.OK {
		// The text begins at its length, which may have been read well.
		r.rest, r.fault = start, fault
		return nil
	}
	return r.Raw(int(length))
}

// Raw reads n bytes.
func (r *Reader) Raw(n int) []byte {
	if r.Err() != api.OK {
		return nil
	}
	n = max(n, 0)
	if n > len(r.rest) {
		r.fault = api.ErrShort
		return nil
	}
	out := clone(r.rest[:n])
	r.rest = r.rest[n:]
	return out
}

// Left is how many bytes have not been read.
func (r *Reader) Left() int {
	if r == nil {
		return 0
	}
	return len(r.rest)
}

// Err is the first fault.
func (r *Reader) Err() api.Errno {
	if r == nil {
		return api.ErrNil
	}
	return r.fault
}

// End is the first fault, or ErrForm if bytes are left, which is no fault of the reader's: it may read on.
func (r *Reader) End() api.Errno {
	if fault := r.Err(); fault != api.OK {
		return fault
	}
	if r.Left() > 0 {
		return api.ErrForm
	}
	return api.OK
}

// textFault is what is wrong with a text whose length was just read.
func (r *Reader) textFault(length int64, most int) api.Errno {
	switch {
	case r.fault != api.OK:
		return r.fault
	case length < 0:
		return api.ErrForm
	case length > int64(max(most, 0)):
		return api.ErrLimit
	case length > int64(len(r.rest)):
		return api.ErrShort
	}
	return api.OK
}

// number is the number that b begins with and how many bytes it takes; none at a fault.
func number(b []byte) (uint64, int, api.Errno) {
	var sum, v uint64
	size, fault := 0, api.ErrShort
scan:
	for i, c := range b {
		switch {
		case i == lastPlace && c > 1, i > 0 && c == 0:
			fault = api.ErrForm
			break scan
		case c < more:
			v, size, fault = sum|uint64(c)<<(7*i), i+1, api.OK
			break scan
		}
		sum |= uint64(c&low) << (7 * i)
	}
	return v, size, fault
}

func clone(b []byte) []byte {
	return append([]byte(nil), b...)
}
