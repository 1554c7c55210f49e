// Package varint is layer 1: numbers in few bytes. See shared/doc/01-varint.md.
package varint

import "portolan/api"

const (
	bits       = 7         // of a number, in each byte
	more       = 1 << bits // the bit of a byte that another one follows
	mostPlain  = 9         // bytes of a number of 63 bits
	mostSigned = 10        // bytes of a number of 64 bits
)

// Put: a number's bytes behind others.
func Put(b []byte, n int) []byte {
	l := fresh(b)
	if n < 0 {
		return l
	}
	return lay(l, uint64(n))
}

// Get: the number that bytes begin with.
func Get(b []byte) (n, size int, e api.Errno) {
	u, size, e := read(b, mostPlain)
	return int(u), size, e
}

// PutSigned: a signed number's bytes behind others.
func PutSigned(b []byte, n int) []byte {
	return lay(fresh(b), place(n))
}

// GetSigned: the signed number that bytes begin with.
func GetSigned(b []byte) (n, size int, e api.Errno) {
	u, size, e := read(b, mostSigned)
	return number(u), size, e
}

// Size: how many bytes a number has.
func Size(n int) int {
	if n < 0 {
		return 0
	}
	size := 1
	for n >= more {
		n >>= bits
		size++
	}
	return size
}

// List: numbers' bytes.
func List(l ...int) []byte {
	var b []byte
	for _, n := range l {
		if n >= 0 {
			b = lay(b, uint64(n))
		}
	}
	return b
}

// Split: bytes' numbers.
func Split(b []byte) ([]int, api.Errno) {
	var l []int
	for at := 0; at < len(b); {
		n, size, e := Get(b[at:])
		if e != api.OK {
			return nil, e
		}
		l = append(l, n)
		at += size
	}
	return l, api.OK
}

// fresh copies b into memory of its own, so that nothing is written into the spare room of what was handed in.
func fresh(b []byte) []byte {
	l := make([]byte, len(b), len(b)+mostSigned)
	copy(l, b)
	return l
}

// lay puts the bytes of u behind b, in place.
func lay(b []byte, u uint64) []byte {
	for u >= more {
		b = append(b, byte(u)|more)
		u >>= bits
	}
	return append(b, byte(u))
}

// read looks at no more than most bytes: where none of these ends the number, it is too long, whether or not others follow.
func read(b []byte, most int) (u uint64, size int, e api.Errno) {
	for i, x := range b[:min(len(b), most)] {
		u |= uint64(x%more) << (bits * i)
		if x >= more {
			continue
		}
		if i == mostSigned-1 && x > 1 {
			// Only one bit of the 64 is left for the tenth byte.
			return 0, 0, api.ErrLong
		}
		if i > 0 && x == 0 {
			return 0, 0, api.ErrSlack
		}
		return u, i + 1, api.OK
	}
	if len(b) < most {
		return 0, 0, api.ErrShort
	}
	return 0, 0, api.ErrLong
}

// place is n's among 0, -1, 1, -2, 2, ..
func place(n int) uint64 {
	u := uint64(n) << 1
	if n < 0 {
		return ^u
	}
	return u
}

// number is the one of a place.
func number(u uint64) int {
	n := int(u >> 1)
	if u%2 == 1 {
		return ^n
	}
	return n
}
