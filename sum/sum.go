// Package sum: sums of bytes: see chapter 1.
package sum

// poly is the polynomial that sums are taken by. A sum's highest bit stands for x^0, its lowest one for x^31.
const poly = 0x82f63b78

// low and high are what a byte's lower and upper four bits leave of themselves when they are moved out. A byte leaves what both of its halves leave, so that no table of 256 words is needed.
var low = [16]uint32{
	0x00000000, 0xf26b8303, 0xe13b70f7, 0x1350f3f4,
	0xc79a971f, 0x35f1141c, 0x26a1e7e8, 0xd4ca64eb,
	0x8ad958cf, 0x78b2dbcc, 0x6be22838, 0x9989ab3b,
	0x4d43cfd0, 0xbf284cd3, 0xac78bf27, 0x5e133c24,
}

var high = [16]uint32{
	0x00000000, 0x105ec76f, 0x20bd8ede, 0x30e349b1,
	0x417b1dbc, 0x5125dad3, 0x61c69362, 0x7198540d,
	0x82f63b78, 0x92a8fc17, 0xa24bb5a6, 0xb21572c9,
	0xc38d26c4, 0xd3d3e1ab, 0xe330a81a, 0xf36e6f75,
}

// Sum is the CRC-32C of b.
func Sum(b []byte) uint32 {
	s := ^uint32(0)
	for _, x := range b {
		s ^= uint32(x)
		s = s>>8 ^ low[s&15] ^ high[s>>4&15]
	}
	return ^s
}

// Join is the sum of bytes whose sum is a, followed by n others whose sum is b.
func Join(a, b uint32, n int) uint32 {
	// The ones that Sum begins with and those that it turns at the end cancel each other out here.
	return push(a, uint(max(n, 0))) ^ b
}

// Patch is what s, the sum of size bytes, becomes if now takes the place of was, which begins at the byte at.
func Patch(s uint32, size, at int, was, now []byte) uint32 {
	n := len(was)
	// Nothing is added to at: the sum might be greater than an int can be.
	if len(now) != n || at < 0 || n > size || at > size-n {
		return s
	}
	// Bytes that are the same in both texts leave nothing in the difference of their sums.
	return s ^ push(Sum(was)^Sum(now), uint(size-n-at))
}

// push is what s leaves behind n bytes 0: s times x^(8n). Squaring makes the steps as few as n has bits.
func push(s uint32, n uint) uint32 {
	for f := uint32(1) << (31 - 8); n > 0; n >>= 1 {
		if n&1 == 1 {
			s = times(s, f)
		}
		f = times(f, f)
	}
	return s
}

// times is a times b, as polynomials, less what poly divides.
func times(a, b uint32) uint32 {
	var p uint32
	for ; a != 0; a <<= 1 {
		if a>>31 == 1 {
			p ^= b
		}
		b = timesX(b)
	}
	return p
}

// timesX is b times x.
func timesX(b uint32) uint32 {
	if b&1 == 1 {
		return b>>1 ^ poly
	}
	return b >> 1
}
