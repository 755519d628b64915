package parity

import "slices"

// fold is what is left of x^8 where bytes are multiplied.
const fold = 0x1d

// tally is a sum of bytes, each of which is added and multiplied for itself.
type tally []byte

// add adds b, which is as long as t, or empty.
func (t tally) add(b []byte) {
	for i, x := range b {
		t[i] ^= x
	}
}

func (t tally) double() {
	for i, x := range t {
		t[i] = double(x)
	}
}

// times multiplies t by c: the doubles of it that c has bits for are added.
func (t tally) times(c byte) {
	d := tally(slices.Clone(t))
	clear(t)
	for ; c != 0; c >>= 1 {
		if c&1 == 1 {
			t.add(d)
		}
		d.double()
	}
}

// empty tells whether all bytes are 0.
func (t tally) empty() bool {
	for _, x := range t {
		if x != 0 {
			return false
		}
	}
	return true
}

// double is twice x.
func double(x byte) byte { return x<<1 ^ x>>7*fold }

// power is 2^i.
func power(i int) byte {
	x := byte(1)
	for range i {
		x = double(x)
	}
	return x
}

// inverse is the number by which c, which is not 0, is multiplied to get 1. The powers of 2 are all numbers but 0, and come round behind 255 of them: so c is 2^k, and this is 2^(255-k).
func inverse(c byte) byte {
	k := 0
	for x := byte(1); x != c && k < 255; x = double(x) {
		k++
	}
	return power(255 - k)
}
