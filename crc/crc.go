// Package crc is layer 2: see shared/doc/02-crc.md.
package crc

// Table of the check's bytes.
type Table [256]uint32

// Make the table.
func Make() *Table {
	t := new(Table)
	for b := range 256 {
		s := uint32(b)
		for range 8 {
			s = turn(s)
		}
		t[b] = s
	}
	return t
}

// turn a number once: it is moved down by one bit.
func turn(s uint32) uint32 {
	if s&1 == 1 {
		return s>>1 ^ 0xedb88320
	}
	return s >> 1
}

// Sum of bytes.
func (t *Table) Sum(s string) uint32 { return t.More(0, s) }

// More bytes behind a sum.
func (t *Table) More(sum uint32, s string) uint32 {
	if t == nil {
		return 0
	}
	state := ^sum
	for i := range len(s) {
		state = t[byte(state)^s[i]] ^ state>>8
	}
	return ^state
}

// Join: the sum of two texts, by theirs, and how many bytes the second one has.
func Join(a, b uint32, n int) uint32 {
	if n < 0 {
		return a
	}
	return Noughts(a, n) ^ Noughts(0, n) ^ b
}

// A number stands for a polynomial over the field of two, its highest bit for
// the power 0. A turn multiplies it by x, modulo the check's polynomial of the
// degree 32; so a byte 0 multiplies it by the eighth power of x.

// cycle: how many polynomials there are beside 0. The check's one has no
// factors, so these are a group: behind as many bytes 0 a number is as it was.
const cycle = 1<<32 - 1

// powers: what 2^k bytes 0 multiply a number by, at k. Each is the square of
// the one ahead; they are written out so that few steps are enough.
var powers = [32]uint32{
	0x00800000, 0x00008000, 0xedb88320, 0xb1e6b092, 0xa06a2517, 0xed627dae, 0x88d14467, 0xd7bbfe6a,
	0xec447f11, 0x8e7ea170, 0x6427800e, 0x4d47bae0, 0x09fe548f, 0x83852d0f, 0x30362f1a, 0x7b5a9cc3,
	0x31fec169, 0x9fec022a, 0x6c8dedc4, 0x15d6874d, 0x5fde7a4e, 0xbad90e37, 0x2e4e5eef, 0x4eaba214,
	0xa8a472c0, 0x429a969e, 0x148d302a, 0xc40ba6d0, 0xc4e22c3c, 0x40000000, 0x20000000, 0x08000000,
}

// Noughts: the sum behind so many bytes 0.
func Noughts(sum uint32, n int) uint32 {
	if n < 0 {
		return sum
	}
	state := ^sum
	left := uint64(n) % cycle
	for k := range 32 {
		if left>>k&1 == 1 {
			state = times(state, powers[k])
		}
	}
	return ^state
}

// times: the product of two polynomials, modulo the check's one.
func times(a, b uint32) uint32 {
	var product uint32
	for k := range 32 {
		if a<<k>>31 == 1 {
			product ^= b
		}
		b = turn(b)
	}
	return product
}
