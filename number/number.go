// Package number: numbers as bytes, the lowest byte first.
package number

// Put fills b with n, as far as it goes.
func Put(b []byte, n uint64) {
	for i := range b {
		b[i] = byte(n >> (8 * i))
	}
}

// Append lays size bytes of n behind b.
func Append(b []byte, n uint64, size int) []byte {
	for i := range size {
		b = append(b, byte(n>>(8*i)))
	}
	return b
}

// Of is the number that b is, at most eight bytes.
func Of(b []byte) uint64 {
	var n uint64
	for i, x := range b {
		n |= uint64(x) << (8 * i)
	}
	return n
}
