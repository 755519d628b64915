package parity

import (
	"bytes"
	"errors"
	"math/rand"
	"slices"
	"testing"

	"bedrock/api"
)

// product multiplies as the document says it, bit by bit.
func product(a, b int) byte {
	p := 0
	for i := range 8 {
		if b>>i&1 == 1 {
			p ^= a << i
		}
	}
	for i := 15; i >= 8; i-- {
		if p>>i&1 == 1 {
			p ^= 0x11d << (i - 8)
		}
	}
	return byte(p)
}

// naive makes the further pieces as the document says it.
func naive(data [][]byte, level int) [][]byte {
	p, q := make([]byte, len(data[0])), make([]byte, len(data[0]))
	weight := 1
	for _, b := range data {
		for k, x := range b {
			p[k] ^= x
			q[k] ^= product(weight, int(x))
		}
		weight = int(product(weight, 2))
	}
	return [][]byte{p, q}[:level]
}

func random(r *rand.Rand, n, size int) [][]byte {
	out := make([][]byte, n)
	for i := range out {
		out[i] = make([]byte, size)
		r.Read(out[i])
	}
	return out
}

func deep(l [][]byte) [][]byte {
	var out [][]byte
	for _, b := range l {
		out = append(out, slices.Clone(b))
	}
	return out
}

func same(a, b [][]byte) bool { return slices.EqualFunc(a, b, bytes.Equal) }

func TestExample(t *testing.T) {
	data := [][]byte{{1, 0, 128}, {2, 255, 7}, {4, 9, 200}}
	more, err := Make(data, 2)
	if err != nil || !same(more, [][]byte{{7, 246, 79}, {21, 199, 137}}) {
		t.Errorf("%v, %v", more, err)
	}
}

func TestNumbers(t *testing.T) {
	for c := 1; c < 256; c++ {
		if product(c, int(inverse(byte(c)))) != 1 {
			t.Errorf("the inverse of %d is %d", c, inverse(byte(c)))
		}
		l := make(tally, 256)
		for i := range l {
			l[i] = byte(i)
		}
		l.times(byte(c))
		for i, x := range l {
			if x != product(c, i) {
				t.Fatalf("%d times %d is %d", c, i, x)
			}
		}
	}
}

func TestMake(t *testing.T) {
	r := rand.New(rand.NewSource(1))
	for n := 1; n <= api.MaxPieces; n++ {
		for _, size := range []int{1, 2, 7, 104, api.MaxBlock} {
			for level := range 3 {
				data := random(r, n, size)
				was := deep(data)
				more, err := Make(data, level)
				if err != nil || !same(more, naive(data, level)) {
					t.Fatalf("%d pieces of %d bytes, level %d: %v", n, size, level, err)
				}
				if !same(data, was) {
					t.Fatal("Make changed what it was given")
				}
			}
		}
	}
}

// TestMend loses every two of all pieces, or one, or none.
func TestMend(t *testing.T) {
	r := rand.New(rand.NewSource(2))
	for n := 1; n <= api.MaxPieces; n++ {
		for level := range 3 {
			data := random(r, n, 1+r.Intn(40))
			all := append(deep(data), naive(data, level)...)
			for i := range all {
				for j := range all {
					l := deep(all)
					if level > 0 {
						l[i] = nil
					}
					if level > 1 {
						l[j] = []byte{}
					}
					was := deep(l)
					got, err := Mend(l, level)
					if err != nil || !same(got, data) {
						t.Fatalf("%d pieces, level %d, without %d and %d: %v", n, level, i, j, err)
					}
					if !same(l, was) {
						t.Fatal("Mend changed what it was given")
					}
				}
			}
		}
	}
}

// TestMendTrusts: what is not lost is not asked whether it fits.
func TestMendTrusts(t *testing.T) {
	data := [][]byte{{1, 2}, {3, 4}, {5, 6}}
	all := append(deep(data), []byte{9, 9}, []byte{8, 8})
	if got, err := Mend(all, 2); err != nil || !same(got, data) {
		t.Errorf("nothing is lost: %v, %v", got, err)
	}
	all[1] = nil
	if got, err := Mend(all, 2); err != nil || !same(got, [][]byte{{1, 2}, {1 ^ 5 ^ 9, 2 ^ 6 ^ 9}, {5, 6}}) {
		t.Errorf("one is told by P: %v, %v", got, err)
	}
	q := append(deep(data), naive(data, 2)...)
	q[1], q[3] = nil, nil
	if got, err := Mend(q, 2); err != nil || !same(got, data) {
		t.Errorf("one is told by Q: %v, %v", got, err)
	}
}

func TestNewMemory(t *testing.T) {
	all := [][]byte{{1, 2}, {3, 4}, {2, 6}}
	out, err := Mend(all, 1)
	if err != nil {
		t.Fatal(err)
	}
	out[0][0] = 77
	_ = append(out[0], 78)
	if all[0][0] != 1 || out[1][0] != 3 {
		t.Error("what Mend answers is not the caller's alone")
	}
}

// TestFindAll tries every exchange of every piece, for pieces of one byte.
func TestFindAll(t *testing.T) {
	r := rand.New(rand.NewSource(3))
	for range 1000 {
		n := 1 + r.Intn(api.MaxPieces)
		level := r.Intn(3)
		data := random(r, n, 1)
		all := append(deep(data), naive(data, level)...)
		for range r.Intn(3) {
			all[r.Intn(len(all))][0] ^= byte(r.Intn(256))
		}
		got, err := Find(all, level)
		want, wrong := search(all, level)
		if !errors.Is(err, wrong) || got != want {
			t.Fatalf("Find(%v, %d) is %d, %v, wanted %d, %v", all, level, got, err, want, wrong)
		}
	}
}

func search(all [][]byte, level int) (int, error) {
	fits := func(l [][]byte) bool {
		n := len(l) - level
		return same(naive(l[:n], level), l[n:])
	}
	if fits(all) {
		return -1, nil
	}
	var found []int
	for i := range all {
		l := deep(all)
		for x := range 256 {
			l[i][0] = byte(x)
			if fits(l) {
				found = append(found, i)
			}
		}
	}
	if level == 2 && len(found) == 1 {
		return found[0], nil
	}
	return 0, api.ErrLost
}

func TestFindEach(t *testing.T) {
	r := rand.New(rand.NewSource(4))
	for n := 1; n <= api.MaxPieces; n++ {
		data := random(r, n, 50)
		all := append(deep(data), naive(data, 2)...)
		for i := range all {
			l := deep(all)
			l[i][r.Intn(50)] ^= 1
			if k, err := Find(l, 2); err != nil || k != i {
				t.Errorf("one byte of the piece %d: %d, %v", i, k, err)
			}
			r.Read(l[i])
			if k, err := Find(l, 2); err != nil || k != i {
				t.Errorf("all bytes of the piece %d: %d, %v", i, k, err)
			}
			for j := range i {
				l := deep(l)
				l[j][3] ^= 5
				l[i][4] ^= 1 + l[i][4] ^ all[i][4] // surely not as it was
				if k, err := Find(l, 2); !errors.Is(err, api.ErrLost) || k != 0 {
					t.Errorf("the pieces %d and %d: %d, %v", i, j, k, err)
				}
			}
		}
	}
}

func TestRefuses(t *testing.T) {
	long := make([]byte, api.MaxBlock+1)
	one := []byte{1}
	many := slices.Repeat([][]byte{one}, 20)
	for _, x := range []struct {
		what  string
		l     [][]byte
		level int
		want  error
	}{
		{"level -1", many[:1], -1, api.ErrArg},
		{"level 3", many[:1], 3, api.ErrArg},
		{"level 3, and nothing", nil, 3, api.ErrArg},
		{"nothing", nil, 0, api.ErrShape},
		{"17 pieces", many[:17], 0, api.ErrShape},
		{"an empty piece", [][]byte{one, {}}, 0, api.ErrShape},
		{"two lengths", [][]byte{one, {1, 2}}, 1, api.ErrShape},
		{"too long", [][]byte{long}, 1, api.ErrShape},
	} {
		if out, err := Make(x.l, x.level); !errors.Is(err, x.want) || out != nil {
			t.Errorf("Make of %s: %v, %v", x.what, out, err)
		}
	}
	for _, x := range []struct {
		what       string
		l          [][]byte
		level      int
		mend, find error
	}{
		{"level -1", many[:1], -1, api.ErrArg, api.ErrArg},
		{"level 3", many[:4], 3, api.ErrArg, api.ErrArg},
		{"nothing", nil, 0, api.ErrShape, api.ErrShape},
		{"no data", many[:2], 2, api.ErrShape, api.ErrShape},
		{"fewer than level", many[:1], 2, api.ErrShape, api.ErrShape},
		{"17 pieces", many[:17], 0, api.ErrShape, api.ErrShape},
		{"17 pieces of data", many[:19], 2, api.ErrShape, api.ErrShape},
		{"two lengths", [][]byte{one, nil, {1, 2}}, 2, api.ErrShape, api.ErrShape},
		{"two lengths, and too many lost", [][]byte{one, nil, {1, 2}}, 0, api.ErrShape, api.ErrShape},
		{"a further piece of another length", [][]byte{one, {1, 2}}, 1, api.ErrShape, api.ErrShape},
		{"too long", [][]byte{long, nil}, 1, api.ErrShape, api.ErrShape},
		{"all lost", [][]byte{nil, {}, nil}, 2, api.ErrShape, api.ErrShape},
		{"one lost at level 0", [][]byte{one, nil}, 0, api.ErrLost, api.ErrShape},
		{"two lost at level 1", [][]byte{one, nil, nil}, 1, api.ErrLost, api.ErrShape},
		{"three lost at level 2", [][]byte{one, nil, nil, nil}, 2, api.ErrLost, api.ErrShape},
		{"one lost at level 1", [][]byte{one, nil}, 1, nil, api.ErrShape},
	} {
		if out, err := Mend(x.l, x.level); !errors.Is(err, x.mend) || err != nil && out != nil {
			t.Errorf("Mend of %s: %v, %v", x.what, out, err)
		}
		if k, err := Find(x.l, x.level); !errors.Is(err, x.find) || k != 0 {
			t.Errorf("Find of %s: %d, %v", x.what, k, err)
		}
	}
	if out, err := Mend(many[:18], 2); err != nil || len(out) != 16 {
		t.Errorf("16 pieces of data: %v", err)
	}
}
