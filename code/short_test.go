package code

import (
	"bytes"
	"errors"
	"math"
	"math/rand"
	"testing"

	"bedrock/api"
)

func TestSwell(t *testing.T) {
	for _, x := range []struct {
		in   []byte
		most int
		out  string
		want error
	}{
		{nil, 0, "", nil},
		{nil, math.MaxInt, "", nil},
		{[]byte{2, 'a', 'b', 'c'}, 3, "abc", nil},
		{[]byte{2, 'a', 'b', 'c', 128, 2, 0}, 9, "abcabc", nil},
		{[]byte{2, 'a', 'b', 'c', 128, 2, 0}, 6, "abcabc", nil},
		{[]byte{2, 'a', 'b', 'c', 128, 2, 0}, 5, "", api.ErrLong},
		{[]byte{0, 'z', 130, 0, 0}, 9, "zzzzzz", nil},
		{[]byte{1, 'a', 'b', 129, 0, 0}, 6, "abbbbb", nil},
		{[]byte{1, 'a', 'b', 129, 1, 0, 0, 'c'}, math.MaxInt, "abababc", nil},
		{[]byte{1, 'a', 'b', 129, 0, 0}, 5, "", api.ErrLong},
		{[]byte{0, 'a', 128, 1, 0}, 9, "", api.ErrForm},
		{[]byte{0, 'a', 128, 0, 1}, 9, "", api.ErrForm},
		{[]byte{128, 0, 0}, 9, "", api.ErrForm},
		{[]byte{255, 255, 255}, 9, "", api.ErrForm},
		{[]byte{0}, 9, "", api.ErrForm},
		{[]byte{1, 'a'}, 5, "", api.ErrForm},
		{[]byte{127}, 500, "", api.ErrForm},
		{[]byte{128}, 5, "", api.ErrForm},
		{[]byte{0, 'a', 128}, 5, "", api.ErrForm},
		{[]byte{0, 'a', 128, 0}, 5, "", api.ErrForm},
		{[]byte{0, 'a', 0}, 0, "", api.ErrLong},
		{[]byte{0, 'a', 0}, 1, "", api.ErrForm},
		{[]byte{3, 'a', 'b', 'c', 'd', 128}, 3, "", api.ErrLong},
		{[]byte{3, 'a', 'b', 'c'}, 1, "", api.ErrForm},
		{[]byte{0, 'a', 255, 1, 0}, 1, "", api.ErrForm},
		{[]byte{0, 'a'}, -1, "", api.ErrArg},
		{nil, -1, "", api.ErrArg},
		{[]byte{9}, math.MinInt, "", api.ErrArg},
	} {
		was := bytes.Clone(x.in)
		out, err := Swell(x.in, x.most)
		if string(out) != x.out || !errors.Is(err, x.want) || err != nil && out != nil {
			t.Errorf("Swell(%v, %d) is %q, %v, wanted %q, %v", x.in, x.most, out, err, x.out, x.want)
		}
		if !bytes.Equal(was, x.in) {
			t.Errorf("Swell(%v, %d) changed what it was given", was, x.most)
		}
	}
}

func TestSwellOfTheLongestSteps(t *testing.T) {
	all := make([]byte, 128)
	for i := range all {
		all[i] = byte(i)
	}
	form := append([]byte{127}, all...)
	form = append(form, 255, 127, 0)
	want := append(append(bytes.Clone(all), all...), 0, 1)
	if out, err := Swell(form, 258); err != nil || !bytes.Equal(out, want) {
		t.Errorf("Swell of the longest steps: %v, %v", out, err)
	}
	if out, err := Swell(form, 257); !errors.Is(err, api.ErrLong) || out != nil {
		t.Errorf("Swell of the longest steps, one too many: %v, %v", out, err)
	}
}

// The greatest distance is 65536 bytes back, the lower byte of it first.
func TestSwellFromFarAway(t *testing.T) {
	form := []byte{2, 'x', 'y', 'z'}
	size := 3
	for size+130 <= 65536 {
		form = append(form, 255, 0, 0)
		size += 130
	}
	for size < 65535 {
		form = append(form, 0, 'w')
		size++
	}
	last := append(bytes.Clone(form), 128, 255, 255)
	if _, err := Swell(last, 1<<20); !errors.Is(err, api.ErrForm) {
		t.Errorf("a distance of 65536 bytes in %d: %v", size, err)
	}
	last = append(bytes.Clone(form), 0, 'w', 128, 255, 255)
	out, err := Swell(last, 1<<20)
	if err != nil || len(out) != 65539 || string(out[65536:]) != "xyz" {
		t.Errorf("a distance of 65536 bytes: %d bytes, %v", len(out), err)
	}
	last = append(bytes.Clone(form), 0, 'w', 128, 254, 255)
	if out, err := Swell(last, 1<<20); err != nil || string(out[65536:]) != "yzz" {
		t.Errorf("a distance of 65535 bytes: %d bytes, %v", len(out), err)
	}
}

func TestSwellEndsForAnyBytes(t *testing.T) {
	r := rand.New(rand.NewSource(1))
	for range 20000 {
		b := make([]byte, r.Intn(30))
		for i := range b {
			b[i] = []byte{0, 1, 2, 3, 127, 128, 129, 255}[r.Intn(8)]
		}
		most := r.Intn(300)
		out, err := Swell(b, most)
		if err == nil && len(out) > most {
			t.Fatalf("Swell(%v, %d) has %d bytes", b, most, len(out))
		}
		if err != nil && (out != nil || !errors.Is(err, api.ErrForm) && !errors.Is(err, api.ErrLong)) {
			t.Fatalf("Swell(%v, %d): %v, %v", b, most, out, err)
		}
	}
}

// checkSqueeze: b comes back, and its form has at most so many bytes, and no more than any may have.
func checkSqueeze(t *testing.T, b []byte, most int) {
	t.Helper()
	was := bytes.Clone(b)
	s, err := Squeeze(b)
	if err != nil {
		t.Fatalf("Squeeze of %d bytes: %v", len(b), err)
	}
	if !bytes.Equal(was, b) {
		t.Fatal("Squeeze changed what it was given")
	}
	if most = min(most, len(b)+(len(b)+127)/128); len(s) > most {
		t.Fatalf("Squeeze of %d bytes has %d, wanted %d at most: %v", len(b), len(s), most, b)
	}
	if out, err := Swell(s, len(b)); err != nil || !bytes.Equal(out, b) {
		t.Fatalf("Squeeze of %d bytes does not come back (%v): %v", len(b), err, b)
	}
}

func TestSqueezeOfTooMuch(t *testing.T) {
	for _, n := range []int{4097, 1 << 20} {
		if s, err := Squeeze(make([]byte, n)); !errors.Is(err, api.ErrLong) || s != nil {
			t.Errorf("Squeeze of %d bytes: %v, %v", n, s, err)
		}
	}
	checkSqueeze(t, make([]byte, 4096), math.MaxInt)
	checkSqueeze(t, nil, 0)
}

// someBytes has bytes of so many kinds: with few of them much comes again, by chance.
func someBytes(r *rand.Rand, n, kinds int) []byte {
	b := make([]byte, n)
	for i := range b {
		b[i] = byte(r.Intn(kinds))
	}
	return b
}

func TestSqueezeOfAnyBytes(t *testing.T) {
	r := rand.New(rand.NewSource(2))
	for _, kinds := range []int{1, 2, 3, 4, 6, 16, 256} {
		for n := range 400 {
			checkSqueeze(t, someBytes(r, n, kinds), math.MaxInt)
		}
		for range 30 {
			checkSqueeze(t, someBytes(r, r.Intn(4097), kinds), math.MaxInt)
		}
		checkSqueeze(t, someBytes(r, 4096, kinds), math.MaxInt)
	}
}

// Short pieces that come again, each behind a byte that does not, part what stands for itself as often as can be.
func TestSqueezeOfShortPiecesThatComeAgain(t *testing.T) {
	r := rand.New(rand.NewSource(3))
	for size := 1; size <= 8; size++ {
		pieces := someBytes(r, 64*size, 256)
		for gap := range 140 {
			b := bytes.Clone(pieces)
			for len(b) < 3900 {
				at := r.Intn(len(pieces) - size)
				b = append(b, pieces[at:at+size]...)
				b = append(b, someBytes(r, gap, 256)...)
			}
			checkSqueeze(t, b, math.MaxInt)
		}
	}
}

// again is a piece again and again, so many bytes.
func again(piece []byte, size int) []byte {
	return bytes.Repeat(piece, size/len(piece)+1)[:size]
}

func checkAgain(t *testing.T, piece []byte, size int) {
	t.Helper()
	checkSqueeze(t, again(piece, size), len(piece)+8+3*(size/130))
}

func TestSqueezeOfAPieceAgainAndAgain(t *testing.T) {
	r := rand.New(rand.NewSource(4))
	for n := 1; n <= 64; n++ {
		for _, kinds := range []int{1, 2, 3, 5, 256} {
			for range 3 {
				piece := someBytes(r, n, kinds)
				for range 8 {
					checkAgain(t, piece, r.Intn(4097))
				}
				for _, size := range []int{0, 1, n - 1, n, n + 1, n + 3, n + 129, n + 130, n + 131, n + 133, 2*n + 130, 4095, 4096} {
					checkAgain(t, piece, size)
				}
			}
		}
	}
}

func TestSqueezeOfAPieceOfEverySize(t *testing.T) {
	r := rand.New(rand.NewSource(5))
	piece := someBytes(r, 64, 3)
	for size := range 4097 {
		checkAgain(t, piece, size)
	}
}

// twisted is a ring of 1 << bits kinds of runs, each of so many bits, of which each comes once: so shorter ones come often, and all of them nearer than the ring is long.
func twisted(bits int) []byte {
	ring := make([]byte, bits)
	seen := map[string]bool{string(ring): true}
	for {
		last := ring[len(ring)-bits+1:]
		next := append(bytes.Clone(last), 1)
		if seen[string(next)] {
			next[bits-1] = 0
		}
		if seen[string(next)] {
			return ring[:len(ring)-bits+1]
		}
		seen[string(next)] = true
		ring = append(ring, next[bits-1])
	}
}

func TestSqueezeOfRingsWhoseRunsComeOften(t *testing.T) {
	for bits := 2; bits <= 6; bits++ {
		ring := twisted(bits)
		if len(ring) != 1<<bits {
			t.Fatalf("the ring of %d bits has %d", bits, len(ring))
		}
		for turn := range ring {
			piece := append(bytes.Clone(ring[turn:]), ring[:turn]...)
			for _, size := range []int{130, 260, 1000, 4096} {
				checkAgain(t, piece, size)
			}
		}
	}
}

// Within a run of one byte many places begin alike, and all of them are nearer than where the piece began.
func TestSqueezeOfPiecesWithARun(t *testing.T) {
	for n := 1; n <= 64; n++ {
		piece := make([]byte, n)
		for run := n - 1; run >= 0; run-- {
			piece[run] = byte(1 + run)
			checkAgain(t, piece, 4096)
		}
	}
}

func TestSqueezeAnswersTheSameForTheSame(t *testing.T) {
	r := rand.New(rand.NewSource(6))
	b := someBytes(r, 4096, 4)
	first, _ := Squeeze(b)
	want := bytes.Clone(first)
	for range 20 {
		next, err := Squeeze(append(make([]byte, 0, 9000), b...))
		if err != nil || !bytes.Equal(next, want) {
			t.Fatal("Squeeze of the same bytes is another form")
		}
		clear(next[:cap(next)])
	}
	if !bytes.Equal(first, want) {
		t.Error("an answer of Squeeze changes later")
	}
}
