package sum

import (
	"bytes"
	"math"
	"math/rand"
	"testing"
)

// plainSum is the sum by the words of 1.1, bit by bit.
func plainSum(b []byte) uint32 {
	s := ^uint32(0)
	for _, x := range b {
		s ^= uint32(x)
		for range 8 {
			out := s & 1
			s >>= 1
			if out == 1 {
				s ^= 0x82f63b78
			}
		}
	}
	return ^s
}

func someBytes(r *rand.Rand, n int) []byte {
	b := make([]byte, n)
	for i := range b {
		b[i] = byte(r.Intn(256))
	}
	return b
}

func joined(lists ...[]byte) []byte { return bytes.Join(lists, nil) }

func TestSumExamples(t *testing.T) {
	for _, x := range []struct {
		text string
		want uint32
	}{
		{"", 0},
		{"123456789", 0xe3069283},
		{string(make([]byte, 32)), 0x8a9136aa},
		{string(bytes.Repeat([]byte{255}, 32)), 0x62a8ab43},
	} {
		if got := Sum([]byte(x.text)); got != x.want {
			t.Errorf("Sum(%q) is %#x, wanted %#x", x.text, got, x.want)
		}
	}
	if Sum(nil) != 0 {
		t.Error("Sum(nil) is not 0")
	}
	if Join(Sum([]byte("ab")), Sum([]byte("c")), 1) != Sum([]byte("abc")) {
		t.Error("Join of ab and c is not the sum of abc")
	}
}

func TestSumOfEachByte(t *testing.T) {
	for x := range 256 {
		b := []byte{byte(x)}
		if Sum(b) != plainSum(b) {
			t.Errorf("Sum of the byte %d is %#x, wanted %#x", x, Sum(b), plainSum(b))
		}
	}
}

func TestSumIsAsInWords(t *testing.T) {
	r := rand.New(rand.NewSource(1))
	for n := range 300 {
		b := someBytes(r, n)
		was := bytes.Clone(b)
		if Sum(b) != plainSum(b) {
			t.Fatalf("Sum of %d bytes is %#x, wanted %#x", n, Sum(b), plainSum(b))
		}
		if !bytes.Equal(b, was) {
			t.Fatal("Sum changed what it was given")
		}
	}
}

func TestJoin(t *testing.T) {
	r := rand.New(rand.NewSource(2))
	for range 500 {
		a, b := someBytes(r, r.Intn(70)), someBytes(r, r.Intn(1000))
		if got, want := Join(Sum(a), Sum(b), len(b)), plainSum(joined(a, b)); got != want {
			t.Fatalf("Join of %d and %d bytes is %#x, wanted %#x", len(a), len(b), got, want)
		}
	}
}

func TestJoinOfNothing(t *testing.T) {
	s := Sum([]byte("abc"))
	if Join(s, 0, 0) != s || Join(0, s, 3) != s {
		t.Error("Join with no bytes is not the other sum")
	}
	for _, n := range []int{-1, -2, -1 << 40, math.MinInt} {
		if Join(5, 6, n) != Join(5, 6, 0) {
			t.Errorf("Join with n %d is not as with 0", n)
		}
	}
}

// Many bytes are joined of halves, so that a wrong power of two would be seen.
func TestJoinOfMany(t *testing.T) {
	zero, n := Sum([]byte{0}), 1
	for range 20 {
		zero, n = Join(zero, zero, n), 2*n
	}
	if got := Sum(make([]byte, n)); got != zero {
		t.Errorf("%d bytes 0, joined, have the sum %#x, wanted %#x", n, zero, got)
	}
	for n <= math.MaxInt/2 {
		if Join(Join(7, zero, n), zero, n) != Join(7, Join(zero, zero, n), 2*n) {
			t.Fatalf("Join of %d bytes twice is not that of both", n)
		}
		zero, n = Join(zero, zero, n), 2*n
	}
	// MaxInt bytes, and one more, are 2 n.
	if Join(Join(7, 0, math.MaxInt), 0, 1) != Join(Join(7, 0, n), 0, n) {
		t.Error("Join of as many bytes as an int can be")
	}
}

func TestPatch(t *testing.T) {
	r := rand.New(rand.NewSource(3))
	for range 1000 {
		b := someBytes(r, r.Intn(300))
		at := r.Intn(len(b) + 1)
		n := r.Intn(len(b) - at + 1)
		now := someBytes(r, n)
		c := joined(b[:at], now, b[at+n:])
		if got, want := Patch(Sum(b), len(b), at, b[at:at+n], now), plainSum(c); got != want {
			t.Fatalf("Patch of %d bytes at %d of %d is %#x, wanted %#x", n, at, len(b), got, want)
		}
	}
}

func TestPatchAtTheEdges(t *testing.T) {
	old, now := []byte("abcdef"), []byte("uvwxyz")
	s := Sum(old)
	for at := range old {
		for to := at; to <= len(old); to++ {
			want := plainSum(joined(old[:at], now[at:to], old[to:]))
			if got := Patch(s, len(old), at, old[at:to], now[at:to]); got != want {
				t.Errorf("Patch of the bytes %d to %d is %#x, wanted %#x", at, to, got, want)
			}
		}
	}
	if Patch(s, 6, 2, old[2:4], old[2:4]) != s {
		t.Error("Patch with the same bytes is another sum")
	}
}

func TestPatchOfWhatIsNotThere(t *testing.T) {
	abc, xyz := []byte("abc"), []byte("xyz")
	for _, x := range []struct {
		size, at int
		was, now []byte
	}{
		{5, 3, abc, xyz},
		{5, 0, abc, xyz[:2]},
		{5, 0, abc[:2], xyz},
		{5, 0, nil, xyz},
		{5, 0, abc, nil},
		{5, -1, abc, xyz},
		{5, 6, nil, nil},
		{2, 0, abc, xyz},
		{0, 0, abc, xyz},
		{-1, 0, abc, xyz},
		{5, math.MinInt, abc, xyz},
		{5, math.MaxInt, abc, xyz},
		{math.MinInt, 0, abc, xyz},
		{math.MinInt, math.MaxInt, abc, xyz},
		{math.MinInt, math.MinInt, abc, xyz},
		{math.MaxInt, math.MaxInt - 2, abc, xyz},
		{math.MaxInt, math.MaxInt, abc, xyz},
	} {
		if got := Patch(77, x.size, x.at, x.was, x.now); got != 77 {
			t.Errorf("Patch(77, %d, %d, %q, %q) is %d", x.size, x.at, x.was, x.now, got)
		}
	}
}

func TestPatchOfAsManyAsCanBe(t *testing.T) {
	abc, xyz := []byte("abc"), []byte("xyz")
	if got := Patch(77, math.MaxInt, math.MaxInt-3, abc, xyz); got != 77^Sum(abc)^Sum(xyz) {
		t.Errorf("Patch of the last bytes is %#x", got)
	}
	want := 77 ^ Join(Sum(abc)^Sum(xyz), 0, math.MaxInt-3)
	if got := Patch(77, math.MaxInt, 0, abc, xyz); got != want {
		t.Errorf("Patch of the first bytes is %#x, wanted %#x", got, want)
	}
}

// turned is b with the bits of turn turned, from the one numbered bit on.
func turned(b []byte, bit int, turn uint32) []byte {
	c := bytes.Clone(b)
	for i := range 32 {
		if at := bit + i; turn>>i&1 == 1 && at < 8*len(c) {
			c[at/8] ^= 1 << (at % 8)
		}
	}
	return c
}

func TestBursts(t *testing.T) {
	r := rand.New(rand.NewSource(4))
	b := someBytes(r, 40)
	s := Sum(b)
	for bit := range 8 * len(b) {
		turns := []uint32{1, 3, 1<<31 | 1, 1<<32 - 1, 0x82f63b78 | 1, 0x1edc6f41}
		for range 50 {
			turns = append(turns, r.Uint32()|1)
		}
		for _, turn := range turns {
			if Sum(turned(b, bit, turn)) == s {
				t.Fatalf("the bits %#x from %d on are not seen", turn, bit)
			}
		}
	}
}
