package space

import (
	"bytes"
	"math"
	"math/rand"
	"slices"
	"testing"

	"bedrock/api"
	"bedrock/number"
)

// form is the bytes of a space of so many rows and these runs, right or wrong.
func form(rows uint64, runs ...[4]uint64) []byte {
	b := number.Append(nil, rows, 4)
	for _, r := range runs {
		b = number.Append(b, r[0], 4)
		b = number.Append(b, r[1], 4)
		b = number.Append(b, r[2], 2)
		b = number.Append(b, r[3], 8)
	}
	return b
}

func TestBytes(t *testing.T) {
	s := space(t, 50)
	for i := range 9 {
		taken(t, s, 5, uint64(i), 5*i)
	}
	s.Turn()
	ok(t, s.Drop(10))
	ok(t, s.Share(20))
	taken(t, s, 2, math.MaxUint64, 45)
	b := s.Bytes()
	rows(t, s, 42, 5, 3) // it is told alone
	if len(b) > 16+20*9 {
		t.Errorf("%d bytes", len(b))
	}
	if !bytes.Equal(b, s.Bytes()) {
		t.Error("the bytes differ from those told before")
	}
	x, err := Load(b)
	ok(t, err)
	rows(t, x, 42, 0, 8)
	if got, want := slices.Collect(x.Runs()), slices.Collect(s.Runs()); !slices.Equal(got, want) {
		t.Errorf("Runs: %v, wanted %v", got, want)
	}
	ok(t, x.Drop(45)) // all runs were there when Turn was called last
	rows(t, x, 40, 2, 8)
	ok(t, x.Drop(20))
	rows(t, x, 40, 2, 8)
}

func TestBytesOfEdges(t *testing.T) {
	for _, n := range []int{0, 1, api.MaxRows} {
		s := space(t, n)
		if n > 0 {
			taken(t, s, n, 0, 0)
		}
		b := s.Bytes()
		if runs := min(n, 1); len(b) > 16+20*runs {
			t.Errorf("%d bytes for %d runs", len(b), runs)
		}
		x, err := Load(b)
		ok(t, err)
		rows(t, x, n, 0, 0)
	}
}

func TestLoadWrong(t *testing.T) {
	good := form(20, [4]uint64{2, 3, 1, 9}, [4]uint64{5, 1, 65535, 0}, [4]uint64{10, 10, 2, 8})
	x, err := Load(good)
	ok(t, err)
	rows(t, x, 14, 0, 6)
	for n := range good {
		if (n-4)%18 == 0 {
			continue // a space with fewer runs
		}
		_, err := Load(good[:n])
		is(t, err, api.ErrForm)
	}
	for _, b := range [][]byte{
		nil,
		append(slices.Clone(good), 0),
		form(api.MaxRows + 1),
		form(math.MaxUint32),
		form(19, [4]uint64{10, 10, 2, 8}), // more rows than there are
		form(20, [4]uint64{10, math.MaxUint32, 2, 8}),          //
		form(20, [4]uint64{20, 1, 1, 1}),                       //
		form(20, [4]uint64{20, 0, 1, 1}),                       // no rows
		form(20, [4]uint64{2, 0, 1, 1}),                        //
		form(20, [4]uint64{2, 1, 0, 1}),                        // no use
		form(20, [4]uint64{2, 3, 1, 1}, [4]uint64{4, 1, 1, 1}), // rows of two runs
		form(20, [4]uint64{4, 1, 1, 1}, [4]uint64{2, 1, 1, 1}), // not in their order
		form(20, [4]uint64{4, 1, 1, 1}, [4]uint64{4, 1, 1, 1}),
	} {
		x, err := Load(b)
		is(t, err, api.ErrForm)
		if x != nil {
			t.Errorf("Load of %v answers a space beside its error", b)
		}
	}
}

// TestLoadOther takes bytes that nobody told: what is loaded tells just these.
func TestLoadOther(t *testing.T) {
	r := rand.New(rand.NewSource(1))
	good := form(20, [4]uint64{2, 3, 1, 9}, [4]uint64{5, 1, 65535, 0}, [4]uint64{10, 10, 2, 8})
	for range 20000 {
		b := slices.Clone(good)
		for range 1 + r.Intn(3) {
			b[r.Intn(len(b))] ^= 1 << r.Intn(8)
		}
		x, err := Load(b)
		if err == nil && !bytes.Equal(x.Bytes(), b) {
			t.Fatalf("%v was loaded, and is told as %v", b, x.Bytes())
		}
		if err != nil {
			is(t, err, api.ErrForm)
		}
	}
}

func TestLoadKeepsNothing(t *testing.T) {
	s := space(t, 9)
	taken(t, s, 2, 5, 0)
	b := s.Bytes()
	x, err := Load(b)
	ok(t, err)
	clear(b)
	if r, err := x.Find(0); err != nil || r.N != 2 || r.Tag != 5 {
		t.Errorf("Find: %+v, %v", r, err)
	}
	if y, err := Load(s.Bytes()); err != nil || y.Rows() != s.Rows() {
		t.Error("the space changed with its bytes")
	}
}
