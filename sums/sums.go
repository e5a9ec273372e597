// Package sums is layer 1: see shared/doc/01-sums.md.
package sums

// Fnv is a sum of 64 bits (FNV-1a) that goes on.
type Fnv uint64

// Start: of no bytes.
const Start Fnv = 14695981039346656037

const (
	fnvPrime Fnv    = 1099511628211
	crcPoly  uint32 = 0xedb88320
)

// Add: bytes more.
func (f Fnv) Add(l ...string) Fnv {
	for _, s := range l {
		for k := range len(s) { // by index: range over the text itself would go by runes
			f = (f ^ Fnv(s[k])) * fnvPrime
		}
	}
	return f
}

// Of: the sum of 64 bits of bytes.
func Of(l ...string) uint64 {
	return uint64(Start.Add(l...))
}

// More: a sum of 32 bits, and bytes behind.
func More(sum uint32, l ...string) uint32 {
	bits := ^sum // a sum that was told is turned: back to where it stood
	for _, s := range l {
		for k := range len(s) {
			bits = crcByte(bits, s[k])
		}
	}
	return ^bits
}

// Crc: the sum of 32 bits of bytes.
func Crc(l ...string) uint32 {
	return More(0, l...) // 0 is the sum of no bytes
}

// crcByte: all eight bits of b are xored in ahead of the moves; each meets the bit that leaves just as if it came one by one.
func crcByte(bits uint32, b byte) uint32 {
	bits ^= uint32(b)
	for range 8 {
		out := bits & 1
		bits = bits>>1 ^ crcPoly*out
	}
	return bits
}
