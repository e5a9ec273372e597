// Package wire is layer 2: see shared/doc/02-wire.md.
package wire

import (
	"cotillion/api"
	"cotillion/sums"
)

// Version is the first byte of all datagrams.
const Version = 7

const (
	more    = 128 // set in all bytes of a number but its last one
	maxNum  = 10  // bytes of the longest number: nine times seven bits, and one more
	sumSize = 4
	head    = 1 + sumSize // what a datagram has ahead of its bytes
)

// Out is bytes that grow.
type Out struct{ b []byte }

// Text: the bytes.
func (o *Out) Text() string {
	return string(o.b)
}

// Num: numbers, seven bits in each byte, the lowest first; all but the last one have the highest bit.
func (o *Out) Num(l ...uint64) *Out {
	for _, n := range l {
		for n >= more {
			o.b = append(o.b, byte(n)|more)
			n >>= 7
		}
		o.b = append(o.b, byte(n))
	}
	return o
}

// Count: numbers from 0 on.
func (o *Out) Count(l ...int) *Out {
	for _, n := range l {
		o.Num(uint64(max(n, 0)))
	}
	return o
}

// Int: whole numbers: the doubled one, or, of one below 0, what doubled is one too many, turned.
func (o *Out) Int(l ...int64) *Out {
	for _, n := range l {
		twice := uint64(n) << 1
		if n < 0 {
			twice = ^twice // -2n - 1, without a step outside of 64 bits
		}
		o.Num(twice)
	}
	return o
}

// Str: texts, with how many bytes they have.
func (o *Out) Str(l ...string) *Out {
	for _, s := range l {
		o.Count(len(s)).Raw(s)
	}
	return o
}

// Raw: bytes as they are.
func (o *Out) Raw(s string) *Out {
	o.b = append(o.b, s...)
	return o
}

// In takes things from the front of bytes; an error stays.
type In struct {
	left string // empty once there is an error, so that every later call finds nothing
	err  api.Errno
}

// Open: all of a text.
func Open(s string) *In {
	return &In{left: s}
}

// Err: the error.
func (i *In) Err() api.Errno {
	return i.err
}

// Len: how many bytes are left.
func (i *In) Len() int {
	return len(i.left)
}

// Fail: an error, if there is none.
func (i *In) Fail(e api.Errno) {
	if i.err == api.OK && e != api.OK {
		i.err = e
		i.left = ""
	}
}

// Raw: so many bytes.
func (i *In) Raw(n int) string {
	n = max(n, 0)
	if n > len(i.left) {
		i.Fail(api.ErrEnd)
		return ""
	}
	s := i.left[:n]
	i.left = i.left[n:]
	return s
}

// Num: a number.
func (i *In) Num() uint64 {
	n, size, e := number(i.left)
	if e != api.OK {
		i.Fail(e)
		return 0
	}
	i.left = i.left[size:]
	return n
}

// number: the number that s begins with, and how many bytes say it.
func number(s string) (uint64, int, api.Errno) {
	var n uint64
	for k := range len(s) {
		b := s[k]
		if k > 0 && b == 0 || k == maxNum-1 && b > 1 { // the tenth byte is the last one, or wrong: the loop ends there
			return 0, 0, api.ErrForm
		}
		n |= uint64(b&^more) << (7 * k)
		if b < more {
			return n, k + 1, api.OK
		}
	}
	return 0, 0, api.ErrEnd
}

// Count: a number of at most so much.
func (i *In) Count(most int) int {
	n := i.Num()
	if n > uint64(max(most, 0)) {
		i.Fail(api.ErrBig)
		return 0
	}
	return int(n)
}

// Int: a whole number.
func (i *In) Int() int64 {
	n := i.Num()
	half := int64(n >> 1)
	if n&1 == 1 {
		return ^half
	}
	return half
}

// Str: a text of at most so many bytes.
func (i *In) Str(most int) string {
	return i.Raw(i.Count(most)) // behind an error the count is 0, and nothing is left: the first error stays
}

// End: ErrForm, if something is left.
func (i *In) End() api.Errno {
	if len(i.left) > 0 {
		i.Fail(api.ErrForm)
	}
	return i.err
}

// Seal: a datagram of bytes: the version, the sum of it and of these, these.
func Seal(s string) string {
	return firstByte() + sumBytes(s) + s
}

// Unseal: the bytes of a datagram.
func Unseal(s string) (string, api.Errno) {
	if len(s) < head {
		return "", api.ErrEnd
	}
	if s[0] != Version {
		return "", api.ErrVersion
	}
	body := s[head:]
	if s[1:head] != sumBytes(body) {
		return "", api.ErrSum
	}
	return body, api.OK
}

func firstByte() string {
	return string([]byte{Version})
}

// sumBytes: the sum of the version and of these bytes, the lowest byte first.
func sumBytes(s string) string {
	sum := sums.Crc(firstByte(), s)
	var b [sumSize]byte
	for k := range b {
		b[k] = byte(sum >> (8 * k))
	}
	return string(b[:])
}
