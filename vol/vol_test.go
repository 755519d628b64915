package vol

import (
	"bytes"
	"errors"
	"math"
	"math/rand"
	"slices"
	"testing"

	"bedrock/api"
)

func volume(t *testing.T, data, level, size int) (*Vol, []*api.Disk) {
	t.Helper()
	var l []*api.Disk
	for range data + level {
		l = append(l, api.NewDisk(size))
	}
	v, err := New(slices.Clone(l), api.Shape{Data: data, Level: level})
	if err != nil {
		t.Fatal(err)
	}
	return v, l
}

func ok(t *testing.T, err error) {
	t.Helper()
	if err != nil {
		t.Fatal(err)
	}
}

func is(t *testing.T, err, want error) {
	t.Helper()
	if !errors.Is(err, want) {
		t.Fatalf("%v, wanted %v", err, want)
	}
}

// isAt asks for ErrSpoilt at a row.
func isAt(t *testing.T, err error, row int) {
	t.Helper()
	var r *api.RowError
	if !errors.Is(err, api.ErrSpoilt) || !errors.As(err, &r) || r.Row != row {
		t.Fatalf("%v, wanted ErrSpoilt at row %d", err, row)
	}
}

func text(n, seed int) []byte {
	b := make([]byte, n)
	rand.New(rand.NewSource(int64(seed))).Read(b)
	return b
}

func TestNew(t *testing.T) {
	d := func(n int) []*api.Disk {
		var l []*api.Disk
		for i := range n {
			l = append(l, api.NewDisk(10+i))
		}
		return l
	}
	for _, x := range []struct {
		l     []*api.Disk
		shape api.Shape
	}{
		{d(0), api.Shape{}},
		{d(1), api.Shape{Data: 0, Level: 1}},
		{d(7), api.Shape{Data: 7}},
		{d(4), api.Shape{Data: 1, Level: 3}},
		{d(1), api.Shape{Data: 2, Level: -1}},
		{d(2), api.Shape{Data: 3, Level: -1}},
		{d(2), api.Shape{Data: 1}},
		{d(2), api.Shape{Data: 2, Level: 1}},
		{nil, api.Shape{Data: 1}},
		{[]*api.Disk{nil}, api.Shape{Data: 1}},
		{append(d(2), nil), api.Shape{Data: 2, Level: 1}},
		{d(1), api.Shape{Data: math.MaxInt, Level: 2}},
		{d(1), api.Shape{Data: math.MinInt, Level: math.MinInt}},
	} {
		v, err := New(x.l, x.shape)
		if is(t, err, api.ErrShape); v != nil {
			t.Errorf("a volume of the shape %v", x.shape)
		}
	}
	for data := 1; data <= 6; data++ {
		for level := range 3 {
			v, err := New(d(data+level), api.Shape{Data: data, Level: level})
			ok(t, err)
			if v.Rows() != 10 || v.RowBytes() != 104*data {
				t.Errorf("%d rows of %d bytes", v.Rows(), v.RowBytes())
			}
		}
	}
}

// TestNewTouchesNothing: New keeps no list of the caller's, and does nothing with the disks.
func TestNewTouchesNothing(t *testing.T) {
	l := []*api.Disk{api.NewDisk(9), api.NewDisk(9)}
	l[0].Fail(0, 1)
	v, err := New(l, api.Shape{Data: 1, Level: 1})
	ok(t, err)
	is(t, l[0].Flush(), api.ErrDevice)
	ok(t, v.Replace(0, api.NewDisk(9)))
	if l[0].Flush() != nil || v.disks[0] == l[0] {
		t.Error("the list of disks is not as it was")
	}
	l[1] = nil
	ok(t, v.Flush())
}

func TestWriteAndRead(t *testing.T) {
	for data := 1; data <= 6; data++ {
		for level := range 3 {
			v, l := volume(t, data, level, 200)
			for i, n := range []int{1, 103, 104, 105, 104 * data, 104*data + 1, 150 * 104 * data} {
				b := text(n, i)
				was := slices.Clone(b)
				rows := (n + 104*data - 1) / (104 * data)
				ok(t, v.Write(3, uint64(i+1), b))
				got, err := v.Read(3, rows, uint64(i+1))
				ok(t, err)
				if len(got) != rows*104*data || !bytes.Equal(got[:n], b) || len(bytes.Trim(got[n:], "\x00")) != 0 {
					t.Fatalf("%d bytes in shape %d, %d", n, data, level)
				}
				if !bytes.Equal(b, was) {
					t.Fatal("Write changed what it was given")
				}
				clear(b) // the volume must not have kept it
				if again, err := v.Read(3, rows, uint64(i+1)); err != nil || !bytes.Equal(again, got) {
					t.Fatal("what was given is kept")
				}
			}
			for i := range level { // as many as may be, of data first
				l[i].Kill()
			}
			got, err := v.Read(3, 150, 7)
			ok(t, err)
			if !bytes.Equal(got, text(150*104*data, 6)) {
				t.Fatalf("without %d disks of %d", level, data+level)
			}
			l[data+level-1].Kill()
			_, err = v.Read(3, 150, 7)
			isAt(t, err, 3)
		}
	}
}

// TestEachSectorOnce: a sector that is written beyond those of the rows would go astray.
func TestEachSectorOnce(t *testing.T) {
	v, l := volume(t, 2, 1, 20)
	for i := range l {
		l[i].Mislay(5, 0)
	}
	ok(t, v.Write(10, 1, text(5*208, 1)))
	if m, err := v.Marks(0); err != nil || len(m) != 0 {
		t.Error(m, err)
	}
	ok(t, v.Mark(1, 2, []byte("goes astray"))) // the sixth sector of each disk
	if m, _ := v.Marks(1); len(m) != 0 {
		t.Error("fewer sectors were written than rows have")
	}
	ok(t, v.Mark(1, 2, []byte("here")))
	if m, _ := v.Marks(1); len(m) != 3 {
		t.Error(m)
	}
	_, err := v.Read(10, 5, 1)
	ok(t, err)
}

func TestRefuses(t *testing.T) {
	v, l := volume(t, 2, 1, 10)
	row := make([]byte, 208)
	is(t, v.Write(-1, 0, row), api.ErrArg)
	is(t, v.Write(99, 1, nil), api.ErrArg)
	for _, at := range []int{-1, 10, math.MinInt, math.MaxInt} {
		is(t, v.Write(at, 1, row), api.ErrPlace)
		is(t, v.Mark(at, 1, nil), api.ErrPlace)
		_, err := v.Read(at, 1, 1)
		is(t, err, api.ErrPlace)
		_, err = v.Scrub(at, 1, 1)
		is(t, err, api.ErrPlace)
		_, err = v.Marks(at)
		is(t, err, api.ErrPlace)
		_, err = v.Remark(at, 1)
		is(t, err, api.ErrPlace)
		_, err = v.Remark(at, 0)
		is(t, err, api.ErrArg)
		is(t, v.Mark(at, 0, row), api.ErrArg)
		is(t, v.Mark(at, 1, row[:105]), api.ErrLong)
	}
	is(t, v.Write(9, 1, append(row, 0)), api.ErrPlace)
	for _, n := range []int{0, -1, math.MinInt} {
		_, err := v.Read(99, n, 1)
		is(t, err, api.ErrArg)
		_, err = v.Scrub(99, n, 1)
		is(t, err, api.ErrArg)
	}
	for _, n := range []int{11, math.MaxInt} {
		_, err := v.Read(0, n, 1)
		is(t, err, api.ErrPlace)
		_, err = v.Read(9, n, 1)
		is(t, err, api.ErrPlace)
		_, err = v.Scrub(1, n-1, 1)
		is(t, err, api.ErrPlace)
	}
	_, err := v.Read(99, 1, 0)
	is(t, err, api.ErrArg)
	_, err = v.Scrub(99, 1, 0)
	is(t, err, api.ErrArg)
	for _, d := range l {
		for i := range 10 {
			if b, err := d.Read(i, 1); err != nil || !bytes.Equal(b, make([]byte, 128)) {
				t.Fatal("what is refused wrote something")
			}
		}
	}
}

// TestManyRows: a call ends at the first row that is spoilt, however many come behind it.
func TestManyRows(t *testing.T) {
	v, l := volume(t, 1, 1, math.MaxInt)
	ok(t, v.Write(0, 4, text(104*130, 1)))
	_, err := v.Read(0, math.MaxInt, 4)
	isAt(t, err, 130)
	l[0].Lose(65)
	n, err := v.Scrub(0, math.MaxInt, 4)
	if isAt(t, err, 130); n != 0 {
		t.Error(n)
	}
	l[1].Kill()
	_, err = v.Read(0, 130, 4)
	ok(t, err) // so what stood ahead of the error was mended
	ok(t, v.Write(math.MaxInt-1, 5, []byte("the last row")))
	b, err := v.Read(math.MaxInt-1, 1, 5)
	if ok(t, err); !bytes.HasPrefix(b, []byte("the last row")) {
		t.Errorf("%q", b)
	}
}

func TestScrub(t *testing.T) {
	v, l := volume(t, 3, 2, 20)
	b := text(312*4, 1)
	ok(t, v.Write(5, 7, b))
	n, err := v.Scrub(5, 4, 7)
	if ok(t, err); n != 0 {
		t.Errorf("%d where all is good", n)
	}
	l[0].Lose(5)
	l[1].Spoil(6, 900, 1)
	l[2].Lose(6)
	l[3].Lose(7)
	l[4].Spoil(7, 0, 1<<31)
	n, err = v.Scrub(5, 4, 7)
	if ok(t, err); n != 5 {
		t.Errorf("%d sectors, not 5", n)
	}
	ok(t, v.Flush())
	for _, gone := range []int{0, 3} {
		l[gone].Kill()
	}
	got, err := v.Read(5, 4, 7)
	if ok(t, err); !bytes.Equal(got, b) {
		t.Error("not what was written")
	}
	n, err = v.Scrub(5, 4, 7)
	if ok(t, err); n != 0 {
		t.Errorf("%d sectors of disks that are gone", n)
	}
	l[1].Lose(7)
	n, err = v.Scrub(5, 4, 7)
	if isAt(t, err, 7); n != 0 {
		t.Errorf("%d with an error", n)
	}
	l[4].Lose(5)
	l[2].Kill()
	_, err = v.Scrub(5, 4, 7)
	isAt(t, err, 5)
}

// TestScrubOlder: where too many disks have a later Write, the older one is not there to be brought back; where few have, it is.
func TestScrubOlder(t *testing.T) {
	v, l := volume(t, 1, 2, 9)
	ok(t, v.Write(4, 1, []byte("old")))
	ok(t, v.Flush())
	ok(t, v.Write(4, 2, []byte("new")))
	l[0].Crash(nil)
	l[1].Crash([]byte{2})
	n, err := v.Scrub(4, 1, 1)
	if ok(t, err); n != 2 {
		t.Error(n)
	}
	_, err = v.Read(4, 1, 2)
	isAt(t, err, 4)
}

func TestMarks(t *testing.T) {
	v, l := volume(t, 2, 2, 9)
	for i, n := range []int{0, 1, 103, 104} {
		b := text(n, i)
		ok(t, v.Mark(8, uint64(i+1), b))
		m, err := v.Marks(8)
		ok(t, err)
		for k, x := range m {
			if x.Disk != k || x.Stamp != uint64(i+1) || !bytes.Equal(x.Bytes, b) {
				t.Fatal(m)
			}
		}
		clear(m[0].Bytes)
		if m, _ = v.Marks(8); len(m) != 4 || !bytes.Equal(m[0].Bytes, b) {
			t.Fatal("what was told is kept")
		}
	}
	ok(t, v.Mark(8, math.MaxUint64, []byte("last")))
	l[0].Spoil(8, 64, 1)
	l[1].Kill()
	l[2].Lose(8)
	m, err := v.Marks(8)
	if ok(t, err); len(m) != 1 || m[0].Disk != 3 {
		t.Fatal(m)
	}
	_, err = v.Remark(8, 4)
	isAt(t, err, 8)
	n, err := v.Remark(8, math.MaxUint64)
	if ok(t, err); n != 2 {
		t.Errorf("%d written", n)
	}
	n, err = v.Remark(8, math.MaxUint64)
	if ok(t, err); n != 0 {
		t.Errorf("%d written again", n)
	}
	if m, _ = v.Marks(8); len(m) != 3 || m[0].Disk != 0 || m[1].Disk != 2 || string(m[1].Bytes) != "last" {
		t.Error(m)
	}
	l[0].Kill()
	l[3].Kill()
	if m, err = v.Marks(8); err != nil || len(m) != 1 {
		t.Error("too many are gone, but one has it: ", m, err)
	}
	n, err = v.Remark(8, math.MaxUint64)
	if is(t, err, api.ErrGone); n != 0 {
		t.Error(n)
	}
	is(t, v.Mark(8, 1, nil), api.ErrGone)
	_, err = v.Remark(8, 2)
	isAt(t, err, 8)
}

// TestWays: a row is good for the way in which it was written alone.
func TestWays(t *testing.T) {
	v, _ := volume(t, 1, 1, 9)
	ok(t, v.Mark(3, 5, make([]byte, 104)))
	_, err := v.Read(3, 1, 5)
	isAt(t, err, 3)
	ok(t, v.Write(3, 6, make([]byte, 104)))
	if m, err := v.Marks(3); err != nil || len(m) != 0 {
		t.Error(m, err)
	}
	_, err = v.Remark(3, 6)
	isAt(t, err, 3)
	_, err = v.Read(3, 1, 5)
	isAt(t, err, 3)
}

func TestFlush(t *testing.T) {
	v, l := volume(t, 2, 1, 9)
	ok(t, v.Write(2, 5, text(600, 1)))
	ok(t, v.Flush())
	for _, d := range l {
		d.Crash([]byte{0})
	}
	got, err := v.Read(2, 3, 5)
	if ok(t, err); !bytes.Equal(got[:600], text(600, 1)) {
		t.Error("what was safe is not there")
	}
}

func TestDisksThatFail(t *testing.T) {
	calls := map[string]func(v *Vol) error{
		"Write":  func(v *Vol) error { return v.Write(1, 9, []byte("x")) },
		"Mark":   func(v *Vol) error { return v.Mark(2, 9, []byte("x")) },
		"Read":   func(v *Vol) error { _, err := v.Read(3, 1, 4); return err },
		"Scrub":  func(v *Vol) error { _, err := v.Scrub(3, 1, 4); return err },
		"Marks":  func(v *Vol) error { _, err := v.Marks(4); return err },
		"Remark": func(v *Vol) error { _, err := v.Remark(4, 5); return err },
		"Flush":  func(v *Vol) error { return v.Flush() },
	}
	for name, call := range calls {
		fresh := func() (*Vol, []*api.Disk) {
			v, l := volume(t, 2, 1, 9)
			ok(t, v.Write(3, 4, []byte("row")))
			ok(t, v.Mark(4, 5, []byte("mark")))
			ok(t, v.Flush())
			return v, l
		}
		for i := range 3 {
			v, l := fresh()
			l[i].Fail(0, 1)
			if err := call(v); err != api.ErrDevice {
				t.Errorf("%s where disk %d fails: %v", name, i, err)
			}
			if err := call(v); err != nil {
				t.Errorf("%s once more: %v", name, err)
			}
			v, l = fresh()
			l[i].Kill()
			l[i].Fail(0, 1)
			if err := call(v); err != nil {
				t.Errorf("%s where disk %d is gone: %v", name, i, err)
			}
			want := map[string]error{"Read": api.ErrSpoilt, "Scrub": api.ErrSpoilt, "Marks": nil}
			e, other := want[name]
			if !other {
				e = api.ErrGone
			}
			l[(i+1)%3].Kill()
			if err := call(v); !errors.Is(err, e) {
				t.Errorf("%s where two disks are gone: %v", name, err)
			}
		}
	}
}

// TestWritingFails: where a sector is to be written anew, and that fails.
func TestWritingFails(t *testing.T) {
	v, l := volume(t, 1, 1, 9)
	ok(t, v.Write(3, 4, []byte("row")))
	ok(t, v.Mark(4, 5, []byte("mark")))
	l[1].Lose(3)
	l[1].Lose(4)
	l[1].Fail(1, 1) // it is read, then written
	n, err := v.Scrub(3, 1, 4)
	if is(t, err, api.ErrDevice); n != 0 {
		t.Error(n)
	}
	l[1].Fail(1, 1)
	n, err = v.Remark(4, 5)
	if is(t, err, api.ErrDevice); n != 0 {
		t.Error(n)
	}
	l[1].Fail(1, 1) // the first of both halves is asked already
	_, err = v.Read(3, 2, 4)
	is(t, err, api.ErrDevice)
}

func TestReplaceAndGrow(t *testing.T) {
	v, l := volume(t, 2, 2, 9)
	ok(t, v.Write(3, 4, []byte("row")))
	ok(t, v.Mark(4, 5, []byte("mark")))
	for _, i := range []int{-1, 4, math.MinInt, math.MaxInt} {
		is(t, v.Replace(i, nil), api.ErrArg)
	}
	is(t, v.Replace(0, nil), api.ErrShape)
	is(t, v.Replace(0, api.NewDisk(8)), api.ErrShape)
	ok(t, v.Replace(0, api.NewDisk(9)))
	ok(t, v.Replace(3, api.NewDisk(30)))
	if v.Rows() != 9 {
		t.Error(v.Rows())
	}
	m, err := v.Marks(4)
	if ok(t, err); len(m) != 2 || m[0].Disk != 1 || m[1].Disk != 2 {
		t.Error(m)
	}
	n, err := v.Scrub(3, 1, 4)
	if ok(t, err); n != 2 {
		t.Error(n)
	}
	for _, d := range []*api.Disk{v.disks[0], l[1], l[2]} {
		d.Grow(5)
	}
	if v.Rows() != 9 {
		t.Error("more rows ahead of Grow")
	}
	is(t, v.Write(9, 1, []byte("x")), api.ErrPlace)
	v.Grow()
	if v.Rows() != 14 {
		t.Error(v.Rows())
	}
	ok(t, v.Write(13, 1, []byte("x")))
	is(t, v.Replace(1, api.NewDisk(13)), api.ErrShape)
	is(t, v.Replace(1, l[2]), api.ErrShape)
}

func TestNoRows(t *testing.T) {
	v, _ := volume(t, 1, 0, 0)
	if v.Rows() != 0 {
		t.Error(v.Rows())
	}
	is(t, v.Write(0, 1, []byte("x")), api.ErrPlace)
	ok(t, v.Flush())
}

func TestStrayWrites(t *testing.T) {
	v, l := volume(t, 1, 1, 9)
	ok(t, v.Write(1, 5, []byte("one")))
	ok(t, v.Write(2, 5, []byte("two")))
	l[0].Mislay(0, 2)
	ok(t, v.Write(1, 6, []byte("six")))
	for _, x := range []struct {
		row   int
		stamp uint64
		want  string
	}{{1, 6, "six"}, {2, 5, "two"}, {1, 5, "one"}} {
		b, err := v.Read(x.row, 1, x.stamp)
		if ok(t, err); string(b[:3]) != x.want {
			t.Errorf("row %d, stamp %d: %q", x.row, x.stamp, b[:3])
		}
	}
	_, err := v.Read(2, 1, 6)
	isAt(t, err, 2)
}
