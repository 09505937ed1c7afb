// Package crc is layer 1: CRC-32C checksums. See shared/doc/01-crc.md.
package crc

// eightBits is the product that shifts by one byte: in this order of bits the greatest one stands for x to the 0.
const eightBits uint32 = 1 << (31 - 8)

// fourBits holds, for each value of the four least significant bits, what a register becomes when those are shifted out.
var fourBits = [16]uint32{
	0x00000000, 0x105ec76f, 0x20bd8ede, 0x30e349b1,
	0x417b1dbc, 0x5125dad3, 0x61c69362, 0x7198540d,
	0x82f63b78, 0x92a8fc17, 0xa24bb5a6, 0xb21572c9,
	0xc38d26c4, 0xd3d3e1ab, 0xe330a81a, 0xf36e6f75,
}

// Of is the checksum of b.
func Of(b []byte) uint32 { return More(0, b) }

// More is the checksum of b behind bytes whose checksum is sum.
func More(sum uint32, b []byte) uint32 {
	register := ^sum
	for _, c := range b {
		register ^= uint32(c)
		register = shift(shift(register, 4), 4)
	}
	return ^register
}

// Join is the checksum of bytes whose checksum is first, followed by n bytes whose checksum is second.
func Join(first, second uint32, n int) uint32 {
	// The register is linear, so of n zero bytes only their product with first is left, and the ones it starts with cancel out.
	power := eightBits
	for ; n > 0; n >>= 1 {
		if n&1 == 1 {
			first = times(first, power)
		}
		power = times(power, power)
	}
	return first ^ second
}

// shift moves a register on by so many zero bits, four at most.
func shift(register uint32, bits uint) uint32 {
	// Fewer than four bits are four of which the first ones are zero: those leave nothing behind.
	return register>>bits ^ fourBits[register<<(4-bits)&15]
}

// times is the product of two polynomials, modulo the checksum's own one.
func times(a, b uint32) uint32 {
	product := uint32(0)
	for i := range 32 {
		product = shift(product, 1) ^ b&-(a>>i&1)
	}
	return product
}
