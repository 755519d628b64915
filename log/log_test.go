package log

import (
	"bytes"
	"errors"
	"math"
	"math/rand"
	"slices"
	"testing"

	"bedrock/api"
	"bedrock/vol"
)

func ok(t *testing.T, err error) {
	t.Helper()
	if err != nil {
		t.Fatal(err)
	}
}

func is(t *testing.T, err, want error) {
	t.Helper()
	if !errors.Is(err, want) {
		t.Fatalf("%v, wanted %v", err, want)
	}
}

func volume(t *testing.T, data, level, size int) (*vol.Vol, []*api.Disk) {
	t.Helper()
	var l []*api.Disk
	for range data + level {
		l = append(l, api.NewDisk(size))
	}
	v, err := vol.New(l, api.Shape{Data: data, Level: level})
	ok(t, err)
	return v, l
}

func begun(t *testing.T, v *vol.Vol, at, rows int, life uint64) *Log {
	t.Helper()
	l, err := Begin(v, at, rows, life)
	ok(t, err)
	return l
}

func told(t *testing.T, v *vol.Vol, at, rows int, life uint64, want ...[]byte) {
	t.Helper()
	got, err := Read(v, at, rows, life)
	ok(t, err)
	if !slices.EqualFunc(got, want, bytes.Equal) {
		t.Fatalf("notes %q, wanted %q", got, want)
	}
}

func left(t *testing.T, l *Log, want int) {
	t.Helper()
	if l.Left() != want {
		t.Fatalf("%d rows are left, wanted %d", l.Left(), want)
	}
}

func text(n int) []byte {
	b := make([]byte, n)
	rand.New(rand.NewSource(int64(n))).Read(b)
	return b
}

func TestWrongArguments(t *testing.T) {
	v, _ := volume(t, 2, 1, 30)
	for _, x := range []struct {
		at, rows int
		life     uint64
		want     error
	}{
		{0, 0, 1, api.ErrArg},
		{0, -1, 1, api.ErrArg},
		{0, math.MinInt, 1, api.ErrArg},
		{0, 65536, 1, api.ErrArg},
		{0, math.MaxInt, 1, api.ErrArg},
		{0, 5, 0, api.ErrArg},
		{0, 5, api.MaxLife + 1, api.ErrArg},
		{0, 5, math.MaxUint64, api.ErrArg},
		{-1, 0, 1, api.ErrArg},
		{-1, 5, 0, api.ErrArg},
		{-1, 5, 1, api.ErrPlace},
		{0, 31, 1, api.ErrPlace},
		{0, 65535, 1, api.ErrPlace},
		{26, 5, 1, api.ErrPlace},
		{30, 1, 1, api.ErrPlace},
		{math.MaxInt, 5, 1, api.ErrPlace},
		{math.MinInt, 5, 1, api.ErrPlace},
		{0, 30, 1, nil},
		{29, 1, api.MaxLife, nil},
	} {
		l, err := Begin(v, x.at, x.rows, x.life)
		is(t, err, x.want)
		if (l == nil) != (x.want != nil) {
			t.Errorf("Begin of %v: %v, %v", x, l, err)
		}
		b, err := Read(v, x.at, x.rows, x.life)
		is(t, err, x.want)
		if b != nil {
			t.Errorf("Read of %v: %v, %v", x, b, err)
		}
	}
}

func TestNotes(t *testing.T) {
	v, _ := volume(t, 2, 1, 120)
	l := begun(t, v, 10, 100, 1)
	left(t, l, 100)
	var want [][]byte
	rows := 100
	for _, n := range []int{1, 99, 100, 101, 199, 200, 201, 1900, 1901, 1999, 2000} {
		b := text(n)
		ok(t, l.Note(b))
		want = append(want, slices.Clone(b))
		clear(b)
		rows -= (n + 99) / 100
		left(t, l, rows)
		told(t, v, 10, 100, 1, want...)
	}
	is(t, l.Note(nil), api.ErrArg)
	is(t, l.Note([]byte{}), api.ErrArg)
	is(t, l.Note(make([]byte, 2001)), api.ErrLong)
	left(t, l, rows)
	ok(t, l.Sync())
	told(t, v, 10, 100, 1, want...)
	told(t, v, 10, 100, 2)
	got, err := Read(v, 10, 100, 1)
	ok(t, err)
	for _, b := range got {
		b = b[:cap(b)]
		clear(b)
	}
	told(t, v, 10, 100, 1, want...)
}

func TestFull(t *testing.T) {
	v, _ := volume(t, 1, 0, 20)
	l := begun(t, v, 3, 5, api.MaxLife)
	is(t, l.Note(text(501)), api.ErrFull)
	is(t, l.Note(text(2001)), api.ErrLong)
	ok(t, l.Note(text(301)))
	is(t, l.Note(text(101)), api.ErrFull)
	ok(t, l.Note(text(100)))
	left(t, l, 0)
	is(t, l.Note(text(1)), api.ErrFull)
	is(t, l.Note(nil), api.ErrArg)
	ok(t, l.Sync())
	told(t, v, 3, 5, api.MaxLife, text(301), text(100))
	if m, err := v.Marks(8); err != nil || len(m) > 0 {
		t.Errorf("the row behind the log has %v, %v", m, err)
	}
}

func TestManyRows(t *testing.T) {
	v, _ := volume(t, 1, 0, 65540)
	l := begun(t, v, 2, 65535, 9)
	var want [][]byte
	for i := range 3276 {
		b := bytes.Repeat([]byte{byte(i), byte(i >> 8)}, 1000)
		ok(t, l.Note(b))
		want = append(want, b)
	}
	left(t, l, 15)
	ok(t, l.Note(text(1500)))
	told(t, v, 2, 65535, 9, append(want, text(1500))...)
}

func TestBeginWritesNothing(t *testing.T) {
	v, disks := volume(t, 1, 1, 20)
	ok(t, begun(t, v, 0, 20, 1).Note([]byte("one")))
	for _, d := range disks {
		d.Fail(0, 1000)
	}
	begun(t, v, 0, 20, 2)
	for _, d := range disks {
		d.Fail(0, 0)
	}
	told(t, v, 0, 20, 1, []byte("one"))
	told(t, v, 0, 20, 2)
}

func TestLives(t *testing.T) {
	v, _ := volume(t, 1, 1, 20)
	a := begun(t, v, 5, 10, 1)
	ok(t, a.Note(text(250)))
	ok(t, a.Note([]byte("two")))
	b := begun(t, v, 5, 10, 2)
	ok(t, b.Note([]byte("other")))
	told(t, v, 5, 10, 2, []byte("other")) // and nothing that lies behind it
	told(t, v, 5, 10, 1)                  // the first note has lost a row
	c := begun(t, v, 5, 10, 1<<39)
	ok(t, c.Note(text(300)))
	told(t, v, 5, 10, 1<<39, text(300))
	told(t, v, 5, 10, 1)
	told(t, v, 5, 10, 2)
}

// TestLifeThatIsWrittenOver: what is left of a life is its first notes, as many as are whole.
func TestLifeThatIsWrittenOver(t *testing.T) {
	v, _ := volume(t, 1, 1, 20)
	a := begun(t, v, 5, 10, 1)
	ok(t, a.Note(text(150)))
	ok(t, a.Note(text(250)))
	ok(t, a.Note([]byte("three")))
	told(t, v, 5, 4, 1, text(150)) // of fewer rows
	told(t, v, 5, 2, 1, text(150))
	told(t, v, 5, 1, 1)
	for at := 6; at < 12; at++ { // none of these is the first row of a log
		told(t, v, at, 5, 1)
	}
	ok(t, begun(t, v, 8, 2, 2).Note([]byte("other")))
	told(t, v, 5, 10, 1, text(150))
	told(t, v, 8, 2, 2, []byte("other"))
}

// TestOtherThings lays all kinds of things into the rows that no log wrote.
func TestOtherThings(t *testing.T) {
	v, _ := volume(t, 1, 1, 20)
	r := rand.New(rand.NewSource(1))
	stamp := uint64(0)
	for range 200 {
		for at := range 20 {
			stamp++
			b := make([]byte, 1+r.Intn(api.SectorRoom))
			r.Read(b)
			if r.Intn(2) == 0 {
				ok(t, v.Write(at, stamp, b))
			} else {
				ok(t, v.Mark(at, stamp, b))
			}
		}
		for life := stamp - 20; life <= stamp; life++ {
			if life > 0 {
				told(t, v, 0, 20, life)
			}
		}
	}
	l := begun(t, v, 0, 20, 100)
	ok(t, l.Note(text(150)))
	told(t, v, 0, 20, 100, text(150))
}

// TestFormOfRows lays rows that only look as if a log had written them.
func TestFormOfRows(t *testing.T) {
	v, _ := volume(t, 1, 1, 30)
	full := make([]byte, 100)
	var long [][]byte // 2001 bytes
	for i := range 20 {
		long = append(long, append([]byte{209, 7, byte(i), 0}, full...))
	}
	for life, rows := range [][][]byte{
		{{}},
		{{1, 0, 0}},
		{{0, 0, 0, 0}},
		{{1, 0, 0, 1, 'a'}},
		{{2, 0, 0, 0, 'a'}},
		{{1, 0, 0, 0, 'a', 'b'}},
		{{101, 0, 1, 0, 'a'}},
		{append([]byte{100, 0, 1, 0}, full...)},
		{append([]byte{101, 0, 0, 0}, full...), {101, 0, 2, 0}},
		{append([]byte{101, 0, 0, 0}, full...), {101, 0, 0, 0, 'a'}},
		{append([]byte{102, 0, 0, 0}, full...), {101, 0, 1, 0, 'a'}},
		{append([]byte{101, 0, 0, 0}, full...), {102, 0, 1, 0, 'a', 'b'}},
		{append([]byte{101, 0, 0, 0}, full...), {1, 0, 0, 0, 'a'}},
		{append([]byte{250, 0, 0, 0}, full...), append([]byte{249, 0, 1, 0}, full...), append([]byte{250, 0, 2, 0}, full[:50]...)},
		{append([]byte{250, 0, 0, 0}, full...), append([]byte{250, 0, 0, 0}, full...), append([]byte{250, 0, 2, 0}, full[:50]...)},
		{{3, 0, 0, 0, 'a'}, {3, 0, 1, 0, 'b', 'c'}},
		append(long, []byte{209, 7, 20, 0, 'a'}),
		{append([]byte{255, 255, 0, 0}, full...)},
	} {
		a, err := areaOf(v, 0, 30, uint64(life+1))
		ok(t, err)
		for i, b := range rows {
			ok(t, v.Mark(i, a.stamp(i), b))
		}
		told(t, v, 0, 30, a.life)
	}
	a, err := areaOf(v, 0, 30, 99)
	ok(t, err)
	ok(t, v.Mark(0, a.stamp(0), append([]byte{101, 0, 0, 0}, full...)))
	ok(t, v.Mark(1, a.stamp(1), []byte{101, 0, 1, 0, 0}))
	told(t, v, 0, 30, 99, make([]byte, 101))
	told(t, v, 0, 1, 99)
}

func TestOneDiskIsEnough(t *testing.T) {
	for keep := range 4 {
		v, disks := volume(t, 2, 2, 40)
		l := begun(t, v, 5, 30, 1)
		ok(t, l.Note(text(450)))
		ok(t, l.Note([]byte("two")))
		ok(t, l.Sync())
		for i, d := range disks {
			switch {
			case i == keep:
			case (i+keep)%2 == 0:
				d.Kill()
			default:
				for at := range 40 {
					d.Spoil(at, 8*at, 1)
				}
			}
		}
		told(t, v, 5, 30, 1, text(450), []byte("two"))
	}
}

func TestRowsOfSeveralDisks(t *testing.T) {
	v, disks := volume(t, 1, 2, 40)
	l := begun(t, v, 0, 30, 1)
	ok(t, l.Note(text(900)))
	ok(t, l.Note([]byte("two")))
	ok(t, l.Note([]byte("three")))
	for i, d := range disks {
		for at := range 9 {
			if at%3 != i {
				d.Lose(at)
			}
		}
	}
	told(t, v, 0, 30, 1, text(900), []byte("two"), []byte("three"))
	for _, d := range disks {
		d.Lose(9)
	}
	told(t, v, 0, 30, 1, text(900)) // nothing behind what is lost
	for _, d := range disks {
		d.Spoil(3, 0, 1)
	}
	told(t, v, 0, 30, 1) // nothing in part
}

func TestDown(t *testing.T) {
	for _, x := range []struct {
		do   func(disks []*api.Disk)
		want error
	}{
		{func(d []*api.Disk) { d[1].Fail(0, 1) }, api.ErrDevice},
		{func(d []*api.Disk) { d[0].Kill(); d[2].Kill() }, api.ErrGone},
	} {
		for _, call := range []func(l *Log) error{(*Log).Sync, func(l *Log) error { return l.Note(text(150)) }} {
			v, disks := volume(t, 2, 1, 40)
			l := begun(t, v, 0, 30, 1)
			ok(t, l.Note([]byte("one")))
			x.do(disks)
			is(t, call(l), x.want)
			left(t, l, 0)
			is(t, l.Note(nil), api.ErrDown)
			is(t, l.Note(make([]byte, 2001)), api.ErrDown)
			is(t, l.Note([]byte("two")), api.ErrDown)
			is(t, l.Sync(), api.ErrDown)
			left(t, l, 0)
			told(t, v, 0, 1, 1, []byte("one"))
		}
	}
}

// TestFailsInANote lets each operation of a note fail: it is told whole, or not at all.
func TestFailsInANote(t *testing.T) {
	for after := range 6 {
		v, disks := volume(t, 1, 1, 40)
		l := begun(t, v, 0, 30, 1)
		ok(t, l.Note([]byte("one")))
		disks[0].Fail(after, 1)
		err := l.Note(text(350))
		if after > 3 {
			ok(t, err)
			left(t, l, 25)
			continue
		}
		is(t, err, api.ErrDevice)
		disks[0].Fail(0, 0)
		got, err := Read(v, 0, 30, 1)
		ok(t, err)
		if n := len(got); n != 1 && (n != 2 || !bytes.Equal(got[1], text(350))) {
			t.Fatalf("notes %q", got)
		}
	}
}

func TestReadFails(t *testing.T) {
	v, disks := volume(t, 1, 1, 40)
	l := begun(t, v, 0, 30, 1)
	ok(t, l.Note(text(250)))
	for after := range 4 {
		disks[1].Fail(after, 1)
		got, err := Read(v, 0, 30, 1)
		is(t, err, api.ErrDevice)
		if got != nil {
			t.Errorf("notes %q beside an error", got)
		}
	}
	for _, d := range disks {
		d.Fail(0, 0)
		d.Kill()
	}
	told(t, v, 0, 30, 1) // nobody tells anything, and nothing fails
}

func TestMend(t *testing.T) {
	v, disks := volume(t, 2, 1, 30)
	notes := [][]byte{text(250), text(1), text(100)}
	l := begun(t, v, 2, 8, 5)
	for _, b := range notes {
		ok(t, l.Note(b))
	}
	mended := func(want int) {
		t.Helper()
		n, err := Mend(v, 2, 8, 5, notes)
		if ok(t, err); n != want {
			t.Fatalf("%d sectors were mended, wanted %d", n, want)
		}
		told(t, v, 2, 8, 5, notes...)
	}
	mended(0)
	disks[0].Lose(2)
	disks[0].Lose(6)
	disks[1].Lose(3)
	disks[2].Lose(7) // which has nothing of them
	mended(3)
	for _, d := range disks {
		for i := range 10 {
			d.Lose(i)
		}
	}
	told(t, v, 2, 8, 5)
	mended(15)
	disks[1].Kill()
	disks[0].Lose(5)
	mended(1)
	for _, x := range []struct {
		at, rows int
		life     uint64
		want     error
	}{{2, 0, 5, api.ErrArg}, {2, 8, 0, api.ErrArg}, {25, 8, 5, api.ErrPlace}} {
		_, err := Mend(v, x.at, x.rows, x.life, notes)
		is(t, err, x.want)
	}
	disks[0].Fail(4, 1)
	_, err := Mend(v, 2, 8, 5, notes)
	is(t, err, api.ErrDevice)
}
