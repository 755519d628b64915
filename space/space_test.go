package space

import (
	"errors"
	"math"
	"slices"
	"testing"

	"bedrock/api"
)

func ok(t *testing.T, err error) {
	t.Helper()
	if err != nil {
		t.Fatal(err)
	}
}

func is(t *testing.T, err, want error) {
	t.Helper()
	if !errors.Is(err, want) {
		t.Fatalf("%v, wanted %v", err, want)
	}
}

func space(t *testing.T, rows int) *Space {
	t.Helper()
	s, err := New(rows)
	ok(t, err)
	return s
}

func taken(t *testing.T, s *Space, n int, tag uint64, want int) {
	t.Helper()
	if at, err := s.Take(n, tag); err != nil || at != want {
		t.Fatalf("Take(%d) is %d, %v, wanted %d", n, at, err, want)
	}
}

func rows(t *testing.T, s *Space, used, held, free int) {
	t.Helper()
	if r := s.Rows(); r != (api.Rows{Used: used, Held: held, Free: free}) {
		t.Fatalf("rows: %+v, wanted %d, %d, %d", r, used, held, free)
	}
}

func TestNew(t *testing.T) {
	for _, n := range []int{-1, math.MinInt, api.MaxRows + 1, math.MaxInt} {
		s, err := New(n)
		is(t, err, api.ErrArg)
		if s != nil {
			t.Errorf("New(%d) answers a space beside its error", n)
		}
	}
	for _, n := range []int{0, 1, api.MaxRows} {
		rows(t, space(t, n), 0, 0, n)
	}
}

func TestExample(t *testing.T) {
	s := space(t, 10)
	taken(t, s, 3, 0, 0)
	taken(t, s, 2, 0, 3)
	taken(t, s, 4, 0, 5)
	ok(t, s.Drop(3))
	rows(t, s, 7, 0, 3)
	taken(t, s, 1, 0, 3)
	s.Turn()
	ok(t, s.Drop(5))
	rows(t, s, 4, 4, 2)
	s.Turn()
	rows(t, s, 4, 0, 6)
}

func TestTakeTheLowest(t *testing.T) {
	s := space(t, 20)
	for i := range 10 {
		taken(t, s, 2, uint64(i), 2*i)
	}
	for _, at := range []int{2, 6, 8, 14, 16, 18} {
		ok(t, s.Drop(at))
	}
	taken(t, s, 3, 1, 6)  // the gap at 2 is too small
	taken(t, s, 2, 1, 2)  // it is the lowest
	taken(t, s, 5, 1, 14) // the last rows, among others
	taken(t, s, 1, 1, 9)
	taken(t, s, 1, 1, 19)
	rows(t, s, 20, 0, 0)
	_, err := s.Take(1, 1)
	is(t, err, api.ErrRoom)
}

func TestTakeWrong(t *testing.T) {
	s := space(t, 5)
	for _, n := range []int{0, -1, math.MinInt} {
		_, err := s.Take(n, 1)
		is(t, err, api.ErrArg)
	}
	for _, n := range []int{6, api.MaxRows, math.MaxInt} {
		at, err := s.Take(n, 1)
		is(t, err, api.ErrRoom)
		if at != 0 {
			t.Errorf("Take(%d) answers %d beside its error", n, at)
		}
	}
	rows(t, s, 0, 0, 5)
	taken(t, s, 5, 1, 0)
	_, err := space(t, 0).Take(1, 1)
	is(t, err, api.ErrRoom)
}

func TestNoRunThere(t *testing.T) {
	s := space(t, 10)
	taken(t, s, 3, 7, 0)
	taken(t, s, 3, 7, 3)
	s.Turn()
	ok(t, s.Drop(3))
	for _, at := range []int{-1, 1, 2, 3, 4, 6, 9, 10, math.MinInt, math.MaxInt} {
		r, err := s.Find(at)
		is(t, err, api.ErrPlace)
		if r != (api.Run{}) {
			t.Errorf("Find(%d) answers %v beside its error", at, r)
		}
		is(t, s.Share(at), api.ErrPlace)
		is(t, s.Drop(at), api.ErrPlace)
	}
	rows(t, s, 3, 3, 4)
}

func TestCounts(t *testing.T) {
	s := space(t, 4)
	taken(t, s, 2, math.MaxUint64, 0)
	for range api.MaxShare - 1 {
		ok(t, s.Share(0))
	}
	is(t, s.Share(0), api.ErrMany)
	if r, err := s.Find(0); err != nil || r != (api.Run{At: 0, N: 2, Count: api.MaxShare, Tag: math.MaxUint64}) {
		t.Fatalf("Find: %+v, %v", r, err)
	}
	rows(t, s, 2, 0, 2) // each row counts once
	for range api.MaxShare {
		ok(t, s.Drop(0))
	}
	is(t, s.Drop(0), api.ErrPlace)
	rows(t, s, 0, 0, 4)
}

func TestHeld(t *testing.T) {
	s := space(t, 6)
	taken(t, s, 2, 1, 0)
	s.Turn()
	taken(t, s, 2, 2, 2)
	ok(t, s.Share(0))
	ok(t, s.Drop(0))
	rows(t, s, 4, 0, 2) // it is in use still
	ok(t, s.Drop(0))
	ok(t, s.Drop(2))
	rows(t, s, 0, 2, 4)
	taken(t, s, 4, 3, 2)
	_, err := s.Take(1, 3)
	is(t, err, api.ErrRoom)
	s.Turn()
	taken(t, s, 2, 4, 0)
	ok(t, s.Drop(0)) // taken behind that Turn
	rows(t, s, 4, 0, 2)
	ok(t, s.Drop(2))
	s.Turn()
	s.Turn()
	rows(t, s, 0, 0, 6)
}

func TestGrow(t *testing.T) {
	s := space(t, 3)
	taken(t, s, 2, 1, 0)
	for _, more := range []int{-1, math.MinInt, api.MaxRows - 2, math.MaxInt} {
		is(t, s.Grow(more), api.ErrArg)
	}
	ok(t, s.Grow(0))
	rows(t, s, 2, 0, 1)
	_, err := s.Take(2, 1)
	is(t, err, api.ErrRoom)
	ok(t, s.Grow(1))
	taken(t, s, 2, 1, 2) // a row of before and one of now
	ok(t, s.Grow(api.MaxRows-4))
	rows(t, s, 4, 0, api.MaxRows-4)
	is(t, s.Grow(1), api.ErrArg)
	ok(t, s.Grow(0))
	taken(t, s, api.MaxRows-4, 1, 4)
}

func TestRuns(t *testing.T) {
	s := space(t, 100)
	seq := s.Runs()
	for range seq {
		t.Fatal("a run of none")
	}
	var want []api.Run
	for i := range 20 {
		taken(t, s, 5, uint64(i), 5*i)
		want = append(want, api.Run{At: 5 * i, N: 5, Count: 1, Tag: uint64(i)})
	}
	s.Turn()
	for range 2 {
		if got := slices.Collect(seq); !slices.Equal(got, want) {
			t.Fatalf("Runs: %v, wanted %v", got, want)
		}
	}
	for end := range 20 {
		n := 0
		for range seq {
			if n == end {
				break
			}
			n++
		}
		if n != end {
			t.Fatalf("%d runs, wanted %d", n, end)
		}
	}
	ok(t, s.Drop(15)) // a run that is held is none
	if got := slices.Collect(seq); !slices.Equal(got, slices.Delete(want, 3, 4)) {
		t.Fatalf("Runs: %v", got)
	}
}

func TestCopy(t *testing.T) {
	s := space(t, 10)
	taken(t, s, 2, 1, 0)
	taken(t, s, 2, 2, 2)
	s.Turn()
	taken(t, s, 2, 3, 4)
	ok(t, s.Drop(2))
	c := s.Copy()
	ok(t, s.Drop(0))
	ok(t, s.Grow(5))
	s.Turn()
	rows(t, c, 4, 2, 4)
	ok(t, c.Drop(4)) // it knows which runs were there at the last Turn
	ok(t, c.Drop(0))
	rows(t, c, 0, 4, 6)
	rows(t, s, 2, 0, 13)
	taken(t, c, 6, 9, 4)
	taken(t, s, 4, 9, 0)
	is(t, s.Share(8), api.ErrPlace)
}

// TestMany lets the list be long, so that it would take too long if it were not balanced.
func TestMany(t *testing.T) {
	const n = 200000
	s := space(t, api.MaxRows)
	for i := range n {
		taken(t, s, 3, uint64(i), 3*i)
	}
	for i := 0; i < n; i += 2 {
		ok(t, s.Drop(3*i))
	}
	for i := 0; i < n; i += 2 {
		taken(t, s, 3, uint64(i), 3*i)
	}
	for i := range n {
		ok(t, s.Drop(3*i))
	}
	rows(t, s, 0, 0, api.MaxRows)
}
