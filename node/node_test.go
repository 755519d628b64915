package node

import (
	"bytes"
	"errors"
	"fmt"
	"math"
	"math/rand"
	"slices"
	"strings"
	"testing"

	"bedrock/api"
	"bedrock/code"
	"bedrock/pool"
	"bedrock/tree"
)

var (
	single = api.Shape{Data: 1}
	shapes = []api.Shape{single, {Data: 1, Level: 1}, {Data: 2, Level: 1}, {Data: 6, Level: 2}}
)

const page = api.PageSize

func ok(t *testing.T, err error) {
	t.Helper()
	if err != nil {
		t.Fatal(err)
	}
}

func is(t *testing.T, err, want error) {
	t.Helper()
	if !errors.Is(err, want) {
		t.Fatalf("%v, wanted %v", err, want)
	}
}

func made(t *testing.T, shape api.Shape, size int) (*pool.Pool, []*api.Disk) {
	t.Helper()
	var l []*api.Disk
	for range shape.Data + shape.Level {
		l = append(l, api.NewDisk(size))
	}
	p, err := pool.Format(l, shape, 7)
	ok(t, err)
	return p, l
}

func begun(t *testing.T) (*pool.Pool, *Table) {
	t.Helper()
	p, _ := made(t, single, 60000)
	return p, On(tree.New(p))
}

var file = api.Attr{Kind: api.File, Mode: 0o644}

func newFile(t *testing.T, x *Table) uint64 {
	t.Helper()
	n, err := x.Make(file)
	ok(t, err)
	return n
}

// noise is bytes that are not to be made shorter.
func noise(seed int64, size int) []byte {
	b := make([]byte, size)
	rand.New(rand.NewSource(seed)).Read(b)
	return b
}

func write(t *testing.T, x *Table, n uint64, at int, b []byte) {
	t.Helper()
	ok(t, x.Write(n, at, b))
}

func reads(t *testing.T, x *Table, n uint64, at int, want []byte) {
	t.Helper()
	b, err := x.Read(n, at, len(want))
	ok(t, err)
	if !bytes.Equal(b, want) {
		t.Fatalf("from %d on %q, wanted %q", at, b, want)
	}
}

func sized(t *testing.T, x *Table, n uint64, size, pages int) {
	t.Helper()
	a, err := x.Attr(n)
	ok(t, err)
	if a.Size != size || a.Pages != pages {
		t.Fatalf("%d bytes, %d pages, wanted %d, %d", a.Size, a.Pages, size, pages)
	}
}

func nexts(t *testing.T, x *Table, n uint64, at int, data bool, want int) {
	t.Helper()
	got, err := x.Next(n, at, data)
	if err != nil || got != want {
		t.Fatalf("Next(%d, %v) is %d, %v, wanted %d", at, data, got, err, want)
	}
}

func noNext(t *testing.T, x *Table, n uint64, at int, data bool, want error) {
	t.Helper()
	got, err := x.Next(n, at, data)
	if is(t, err, want); got != 0 {
		t.Fatalf("Next(%d, %v) is %d, with an error", at, data, got)
	}
}

func nodes(x *Table) ([]uint64, error) {
	var l []uint64
	for n, err := range x.Nodes() {
		if err != nil {
			if n != 0 {
				panic("a number with an error")
			}
			return l, err
		}
		l = append(l, n)
	}
	return l, nil
}

// state is all that can be seen of a pool's blocks, and of a map's root.
func state(x *Table) string {
	s := fmt.Sprint(x.Root())
	for b, n := range x.Pool().Blocks() {
		s += fmt.Sprint(" ", b, n)
	}
	return s
}

// snapped is a table that is as x is.
func snapped(t *testing.T, x *Table) *Table {
	t.Helper()
	m, err := x.Snap()
	ok(t, err)
	return On(m)
}

func TestMake(t *testing.T) {
	_, x := begun(t)
	l, err := nodes(x)
	if ok(t, err); len(l) > 0 {
		t.Fatalf("an empty map has the nodes %v", l)
	}
	full := api.Attr{
		Kind: api.Link, Mode: math.MaxInt32, Uid: math.MaxInt32, Gid: math.MaxInt32 - 1, Project: math.MaxInt32 - 2,
		Links: 65535, Fold: true, Parent: 1<<62 - 1, Turn: 1<<62 - 2, Size: -5, Pages: math.MaxInt,
	}
	for i, a := range []api.Attr{full, {Kind: api.File}, {Kind: api.Dir, Uid: 1, Gid: 2, Project: 3, Mode: 4, Links: 5, Parent: 6, Turn: 7}} {
		n, err := x.Make(a)
		if ok(t, err); n != uint64(i+1) {
			t.Fatalf("node %d is %d", i+1, n)
		}
		got, err := x.Attr(n)
		a.Size, a.Pages = 0, 0
		if ok(t, err); got != a {
			t.Fatalf("%+v, wanted %+v", got, a)
		}
	}
	ok(t, x.Free(3))
	ok(t, x.Free(1))
	if n := newFile(t, x); n != 4 {
		t.Fatalf("behind node 3 comes %d", n)
	}
	if l, err := nodes(x); err != nil || !slices.Equal(l, []uint64{2, 4}) {
		t.Fatalf("nodes %v, %v", l, err)
	}
	ok(t, x.Free(4))
	ok(t, x.Free(2))
	if n := newFile(t, On(x.Map)); n != 5 {
		t.Fatalf("behind node 4 comes %d", n)
	}
}

// TestNodesEnd: Nodes may be ended, gone over again, and tells what is so then.
func TestNodesEnd(t *testing.T) {
	_, x := begun(t)
	seq := x.Nodes()
	for range 300 {
		n := newFile(t, x)
		write(t, x, n, 0, []byte("some"))
		ok(t, x.SetExtra(n, "name", nil))
	}
	for range 2 {
		want := uint64(1)
		for n, err := range seq {
			if err != nil || n != want {
				t.Fatalf("%d, %v, wanted %d", n, err, want)
			}
			if want++; n == 200 {
				break
			}
		}
	}
	ok(t, x.Free(1))
	if l, err := nodes(x); err != nil || len(l) != 299 || l[0] != 2 || l[298] != 300 {
		t.Fatalf("%v, %v", l, err)
	}
}

func wrongAttrs() []api.Attr {
	var l []api.Attr
	for _, f := range []func(a *api.Attr){
		func(a *api.Attr) { a.Kind = 0 },
		func(a *api.Attr) { a.Kind = 4 },
		func(a *api.Attr) { a.Kind = -1 },
		func(a *api.Attr) { a.Mode = -1 },
		func(a *api.Attr) { a.Mode = 1 << 31 },
		func(a *api.Attr) { a.Uid = math.MinInt },
		func(a *api.Attr) { a.Uid = math.MaxInt },
		func(a *api.Attr) { a.Gid = -1 },
		func(a *api.Attr) { a.Gid = 1 << 31 },
		func(a *api.Attr) { a.Project = -1 },
		func(a *api.Attr) { a.Project = 1 << 31 },
		func(a *api.Attr) { a.Links = -1 },
		func(a *api.Attr) { a.Links = 65536 },
		func(a *api.Attr) { a.Parent = 1 << 62 },
		func(a *api.Attr) { a.Turn = 1 << 62 },
		func(a *api.Attr) { a.Turn = math.MaxUint64 },
	} {
		a := file
		f(&a)
		l = append(l, a)
	}
	return l
}

func TestWrongAttrs(t *testing.T) {
	_, x := begun(t)
	n := newFile(t, x)
	before := state(x)
	for _, a := range wrongAttrs() {
		m, err := x.Make(a)
		if is(t, err, api.ErrArg); m != 0 {
			t.Fatalf("with an error node %d", m)
		}
		is(t, x.SetAttr(n, a), api.ErrArg)
		is(t, x.SetAttr(n+1, a), api.ErrNode)
	}
	if state(x) != before {
		t.Fatal("with an error something was changed")
	}
	if n := newFile(t, x); n != 2 {
		t.Fatalf("behind what was refused comes %d", n)
	}
}

func TestSetAttr(t *testing.T) {
	_, x := begun(t)
	n := newFile(t, x)
	write(t, x, n, 1000, []byte("bytes"))
	ok(t, x.SetExtra(n, "name", []byte("val")))
	want := api.Attr{Kind: api.Dir, Mode: 1, Uid: 2, Gid: 3, Project: 4, Links: 5, Fold: true, Parent: 6, Turn: 7, Size: 1 << 50, Pages: -9}
	ok(t, x.SetAttr(n, want))
	got, err := x.Attr(n)
	want.Size, want.Pages = 1005, 1
	if ok(t, err); got != want {
		t.Fatalf("%+v, wanted %+v", got, want)
	}
	reads(t, x, n, 1000, []byte("bytes"))
	if v, err := x.Extra(n, "name"); err != nil || string(v) != "val" {
		t.Fatalf("%q, %v", v, err)
	}
}

// TestNoNode: all calls but Lay ask first whether there is such a node.
func TestNoNode(t *testing.T) {
	_, x := begun(t)
	n := newFile(t, x)
	ok(t, x.Free(newFile(t, x)))
	before := state(x)
	for _, no := range []uint64{0, 2, 3, 1 << 40, math.MaxUint64} {
		a, err := x.Attr(no)
		if is(t, err, api.ErrNode); a != (api.Attr{}) {
			t.Fatalf("with an error %+v", a)
		}
		_, err = x.Read(no, -1, -1)
		is(t, err, api.ErrNode)
		is(t, x.Write(no, -1, nil), api.ErrNode)
		is(t, x.Cut(no, -1), api.ErrNode)
		is(t, x.Punch(no, -1, math.MaxInt), api.ErrNode)
		noNext(t, x, no, -1, true, api.ErrNode)
		is(t, x.Clone(no, -1, n, 0, 100), api.ErrNode)
		is(t, x.Clone(n, -1, no, 0, 100), api.ErrNode)
		is(t, x.Clone(no, 0, no, 0, 0), api.ErrNode)
		_, err = x.Extra(no, "")
		is(t, err, api.ErrNode)
		is(t, x.SetExtra(no, "", make([]byte, 300)), api.ErrNode)
		is(t, x.DelExtra(no, ""), api.ErrNode)
		_, err = x.Extras(no)
		is(t, err, api.ErrNode)
		is(t, x.Free(no), api.ErrNode)
		is(t, x.SetAttr(no, file), api.ErrNode)
	}
	if state(x) != before {
		t.Fatal("with an error something was changed")
	}
}

func TestWrongNumbers(t *testing.T) {
	_, x := begun(t)
	n := newFile(t, x)
	write(t, x, n, 0, noise(1, 1000))
	before := state(x)
	long := make([]byte, api.MaxIO+1)
	for _, c := range []struct {
		at, size int
		want     error
	}{
		{-1, 0, api.ErrArg}, {0, -1, api.ErrArg}, {math.MinInt, math.MaxInt, api.ErrArg}, {math.MaxInt, math.MinInt, api.ErrArg},
		{0, api.MaxFile + 1, api.ErrLong}, {1, api.MaxFile, api.ErrLong}, {api.MaxFile, 1, api.ErrLong}, {api.MaxFile + 1, 0, api.ErrLong},
		{math.MaxInt, math.MaxInt, api.ErrLong}, {math.MaxInt, 0, api.ErrLong}, {0, math.MaxInt, api.ErrLong},
	} {
		is(t, x.Punch(n, c.at, c.size), c.want)
		b, err := x.Read(n, c.at, c.size)
		if is(t, err, c.want); b != nil {
			t.Fatalf("with an error %q", b)
		}
		if c.at < 0 {
			is(t, x.Write(n, c.at, long), c.want)
			is(t, x.Cut(n, c.at), c.want)
			noNext(t, x, n, c.at, true, c.want)
		}
		if c.at > api.MaxFile && c.size >= 0 {
			is(t, x.Write(n, c.at, nil), c.want)
			is(t, x.Cut(n, c.at), c.want)
			noNext(t, x, n, c.at, false, c.want)
		}
	}
	_, err := x.Read(n, 0, api.MaxIO+1)
	is(t, err, api.ErrLong)
	is(t, x.Write(n, 0, long), api.ErrLong)
	is(t, x.Write(n, api.MaxFile-9, long[:10]), api.ErrLong)
	is(t, x.Write(n, api.MaxFile, long[:1]), api.ErrLong)
	ok(t, x.Write(n, api.MaxFile, nil))
	ok(t, x.Punch(n, api.MaxFile, 0))
	ok(t, x.Punch(n, 1000, api.MaxFile-1000))
	ok(t, x.Punch(n, 5, 0))
	if state(x) != before {
		t.Fatal("something was changed")
	}
}

func TestWriteRead(t *testing.T) {
	_, x := begun(t)
	n := newFile(t, x)
	var want []byte
	for i, c := range []struct{ at, size int }{
		{5, 1}, {0, 10}, {250, 12}, {4090, 12}, {8192, 4096}, {100, 9000}, {5000, 256}, {5119, 2}, {5120, 1},
		{0, api.MaxIO}, {12345, api.MaxIO}, {api.MaxIO, api.MaxIO}, {3 * page, 17 * page}, {16*page - 1, 16*page + 2},
	} {
		b := noise(int64(i), c.size)
		if i%3 == 0 {
			b = bytes.Repeat([]byte{byte(i)}, c.size)
		}
		given := slices.Clone(b)
		write(t, x, n, c.at, b)
		if !bytes.Equal(b, given) {
			t.Fatal("what was handed in was changed")
		}
		if more := c.at + c.size - len(want); more > 0 {
			want = append(want, make([]byte, more)...)
		}
		copy(want[c.at:], b)
		clear(b)
		for at := 0; at < len(want); at += api.MaxIO - 777 {
			reads(t, x, n, at, want[at:min(at+api.MaxIO, len(want))])
		}
	}
	sized(t, x, n, len(want), 512)
	for at := range 700 {
		reads(t, x, n, at*3, want[at*3:at*3+at])
	}
	b, err := x.Read(n, len(want)-3, 100)
	if ok(t, err); !bytes.Equal(b, want[len(want)-3:]) {
		t.Fatalf("at the end %q", b)
	}
	for _, at := range []int{len(want), len(want) + 1, api.MaxFile} {
		if b, err := x.Read(n, at, 0); err != nil || len(b) > 0 {
			t.Fatalf("behind the end %q, %v", b, err)
		}
	}
}

// TestZeros: a page is data since it was written, not for what it has.
func TestZeros(t *testing.T) {
	_, x := begun(t)
	n := newFile(t, x)
	write(t, x, n, 3*page, make([]byte, 1))
	sized(t, x, n, 3*page+1, 1)
	nexts(t, x, n, 0, true, 3*page)
	write(t, x, n, page-1, make([]byte, 2))
	sized(t, x, n, 3*page+1, 3)
	nexts(t, x, n, 0, true, 0)
	nexts(t, x, n, 1, false, 2*page)
}

func TestCut(t *testing.T) {
	p, x := begun(t)
	n := newFile(t, x)
	want := noise(3, 40*page)
	write(t, x, n, 0, want)
	before := p.Use().Used
	ok(t, x.Cut(n, 35*page+1))
	sized(t, x, n, 35*page+1, 36)
	ok(t, x.Cut(n, 40*page))
	sized(t, x, n, 40*page, 36)
	clear(want[35*page+1:])
	reads(t, x, n, 0, want)
	ok(t, x.Cut(n, 35*page))
	sized(t, x, n, 35*page, 35)
	if fewer := before - p.Use().Used; fewer < 5*page/104 {
		t.Errorf("five pages fewer take %d rows fewer", fewer)
	}
	ok(t, x.Cut(n, 20*page-3))
	sized(t, x, n, 20*page-3, 20)
	ok(t, x.Cut(n, api.MaxFile))
	sized(t, x, n, api.MaxFile, 20)
	clear(want[20*page-3:])
	reads(t, x, n, 0, want)
	nexts(t, x, n, 0, false, 20*page)
	noNext(t, x, n, 20*page, true, api.ErrMissing)
	ok(t, x.Cut(n, 1))
	sized(t, x, n, 1, 1)
	ok(t, x.Cut(n, 0))
	sized(t, x, n, 0, 0)
	ok(t, x.Cut(n, 512))
	reads(t, x, n, 0, make([]byte, 512))
	sized(t, x, n, 512, 0)
}

// TestCutToItsSize: what is so already is not made anew.
func TestCutToItsSize(t *testing.T) {
	_, x := begun(t)
	n := newFile(t, x)
	write(t, x, n, 0, noise(3, 40*page+9))
	before := state(x)
	ok(t, x.Cut(n, 40*page+9))
	ok(t, x.Punch(n, 40*page+9, 100))
	if state(x) != before {
		t.Fatal("something was changed")
	}
	ok(t, x.Cut(n, 41*page))
	ok(t, x.Punch(n, 40*page+9, 100))
	reads(t, x, n, 40*page, append(noise(3, 40*page+9)[40*page:], make([]byte, page-9)...))
	sized(t, x, n, 41*page, 41)
}

// TestExample8 is the document's example 8.
func TestExample8(t *testing.T) {
	_, x := begun(t)
	n := newFile(t, x)
	write(t, x, n, page, bytes.Repeat([]byte("d"), 4*page))
	ok(t, x.Punch(n, 500, 600))
	sized(t, x, n, 1280, 2)
	nexts(t, x, n, 300, false, 512)
	nexts(t, x, n, 512, true, 1024)
	nexts(t, x, n, 1100, false, 1280)
	noNext(t, x, n, 1280, false, api.ErrMissing)
}

func TestPunch(t *testing.T) {
	_, x := begun(t)
	n := newFile(t, x)
	want := noise(4, 40*page+100)
	write(t, x, n, 0, want)
	punch := func(at, size, pages int) {
		t.Helper()
		ok(t, x.Punch(n, at, size))
		sized(t, x, n, len(want), pages)
		clear(want[at:min(at+size, len(want))])
		reads(t, x, n, 0, want)
	}
	punch(3, 5, 41)
	punch(page-1, 2, 41)
	punch(page, page-1, 41)
	punch(page, page, 40)
	punch(page-9, 3*page, 39)
	punch(15*page, 17*page, 22)
	punch(40*page, 99, 22)
	punch(40*page, 100, 21)
	write(t, x, n, 40*page+50, []byte("again"))
	clear(want[40*page:])
	copy(want[40*page+50:], "again")
	sized(t, x, n, len(want), 22)
	punch(40*page, page, 21)
	punch(39*page+1, api.MaxFile-39*page-1, 21)
	punch(0, api.MaxFile, 0)
	noNext(t, x, n, 0, true, api.ErrMissing)
	nexts(t, x, n, 77, false, 77)
}

// TestHolesTakeNoRoom: neither where they lie among data, nor far behind.
func TestHolesTakeNoRoom(t *testing.T) {
	p, x := begun(t)
	n := newFile(t, x)
	write(t, x, n, 0, noise(5, 16*page))
	before := p.Use().Used
	for i := 1; i < 16; i++ {
		ok(t, x.Punch(n, i*page, page))
	}
	if left := p.Use().Used; left > before-37 {
		t.Errorf("%d rows of %d are in use for one page of sixteen", left, before)
	}
	before = p.Use().Used
	ok(t, x.Cut(n, api.MaxFile))
	if more := p.Use().Used - before; more > 1 {
		t.Errorf("a hole takes %d rows", more)
	}
}

func TestNext(t *testing.T) {
	_, x := begun(t)
	n := newFile(t, x)
	noNext(t, x, n, 0, true, api.ErrMissing)
	noNext(t, x, n, 0, false, api.ErrMissing)
	ok(t, x.Cut(n, 1000*page+7))
	nexts(t, x, n, 0, false, 0)
	noNext(t, x, n, 0, true, api.ErrMissing)
	for _, i := range []int{5, 16, 17, 31, 32, 33, 63, 500, 511, 512} {
		write(t, x, n, i*page+9, []byte{1})
	}
	write(t, x, n, 100*page, noise(6, 50*page))
	write(t, x, n, 1000*page, []byte("end"))
	data := func(i int) bool {
		return slices.Contains([]int{5, 16, 17, 31, 32, 33, 63, 500, 511, 512, 1000}, i) || i >= 100 && i < 150
	}
	for at := 0; at < 1000*page+7; at += 37 {
		for _, want := range []bool{true, false} {
			i := at / page
			for i <= 1000 && data(i) != want {
				i++
			}
			switch {
			case i <= 1000:
				nexts(t, x, n, at, want, max(at, i*page))
			case want:
				noNext(t, x, n, at, want, api.ErrMissing)
			default:
				nexts(t, x, n, at, want, 1000*page+7)
			}
		}
	}
}

// TestTheLastPage: a file has 2^32 pages at most.
func TestTheLastPage(t *testing.T) {
	p, x := begun(t)
	n, o := newFile(t, x), newFile(t, x)
	b := noise(7, 20*page)
	write(t, x, n, api.MaxFile-len(b), b)
	sized(t, x, n, api.MaxFile, 20)
	reads(t, x, n, api.MaxFile-len(b), b)
	nexts(t, x, n, 0, true, api.MaxFile-len(b))
	nexts(t, x, n, api.MaxFile-1, false, api.MaxFile)
	ok(t, x.Clone(n, 1<<32-20, o, 0, 20))
	reads(t, x, o, 0, b)
	ok(t, x.Clone(o, 0, n, 1<<32-40, 40))
	sized(t, x, n, api.MaxFile, 20)
	reads(t, x, n, api.MaxFile-40*page, append(slices.Clone(b), make([]byte, 20*page)...))
	ok(t, x.Lay(n, 1<<32-16, b[:16*page]))
	reads(t, x, n, api.MaxFile-16*page, b[:16*page])
	ok(t, x.Punch(n, api.MaxFile-1, 1))
	ok(t, x.Cut(n, api.MaxFile-1))
	ok(t, x.Free(n))
	ok(t, x.Free(o))
	ok(t, x.Map.Free())
	if p.Use().Used != 0 {
		t.Fatalf("%+v", p.Use())
	}
}

func TestExtras(t *testing.T) {
	p, x := begun(t)
	n, o := newFile(t, x), newFile(t, x)
	long := strings.Repeat("\x00", api.MaxPart)
	names := []string{long, "\x00", "\x01", "\x01\x00", "\x02", "a", "a\x00", "aa", "b", "\xff", "\xff\xff", "name", "name ", "z", "Z", "é"}
	for i, s := range names {
		ok(t, x.SetExtra(n, s, bytes.Repeat([]byte{byte(i)}, i*13)))
	}
	is(t, x.SetExtra(n, "more", nil), api.ErrMany)
	ok(t, x.SetExtra(o, "more", nil))
	ok(t, x.SetExtra(n, long, make([]byte, api.MaxAttrVal)))
	is(t, x.SetExtra(n, "more", make([]byte, api.MaxAttrVal+1)), api.ErrLong)
	for _, s := range []string{"", long + "x", strings.Repeat("x", 1000)} {
		_, err := x.Extra(n, s)
		is(t, err, api.ErrName)
		is(t, x.SetExtra(n, s, make([]byte, 500)), api.ErrName)
		is(t, x.DelExtra(n, s), api.ErrName)
	}
	slices.Sort(names)
	l, err := x.Extras(n)
	if ok(t, err); !slices.Equal(l, names) {
		t.Fatalf("%q", l)
	}
	is(t, x.DelExtra(n, "more"), api.ErrMissing)
	ok(t, x.DelExtra(n, "a\x00"))
	is(t, x.DelExtra(n, "a\x00"), api.ErrMissing)
	v, err := x.Extra(n, "a\x00")
	if is(t, err, api.ErrMissing); v != nil {
		t.Fatalf("with an error %q", v)
	}
	ok(t, x.SetExtra(n, "more", []byte("val")))
	v, err = x.Extra(n, "more")
	if ok(t, err); string(v) != "val" {
		t.Fatalf("%q", v)
	}
	if l, err := x.Extras(o); err != nil || !slices.Equal(l, []string{"more"}) {
		t.Fatalf("%q, %v", l, err)
	}
	ok(t, x.Free(n))
	if l, err := x.Extras(o); err != nil || len(l) != 1 {
		t.Fatalf("%q, %v", l, err)
	}
	ok(t, x.Free(o))
	ok(t, x.Map.Free())
	if p.Use().Used != 0 {
		t.Fatalf("%+v", p.Use())
	}
}

// TestOthersKeys: a table leaves alone what others have in its map, whatever their keys.
func TestOthersKeys(t *testing.T) {
	_, x := begun(t)
	var others [][]byte
	for _, first := range []uint64{10, 11, 19, 300} {
		k, err := code.Key([]api.Part{num(first), num(1), num(0)})
		ok(t, err)
		others = append(others, k)
	}
	n := newFile(t, x)
	// keys that none of chapter 2's are, in the midst of the table's
	others = append(others, append(nodeKey(n), 77), append(pageKey(n, 3), 1, 0), []byte("zzz"), append(firstKey(), 200), append(nameKey(n, "n"), 55))
	for _, k := range others {
		ok(t, x.Put(k, []byte("other")))
	}
	write(t, x, n, 0, noise(8, 10*page))
	reads(t, x, n, 0, noise(8, 10*page))
	ok(t, x.SetExtra(n, "n", nil))
	if l, err := nodes(x); err != nil || !slices.Equal(l, []uint64{n}) {
		t.Fatalf("%v, %v", l, err)
	}
	if l, err := x.Extras(n); err != nil || len(l) != 1 {
		t.Fatalf("%q, %v", l, err)
	}
	nexts(t, x, n, 0, false, 10*page)
	var want []api.Page
	for i := range 10 {
		want = append(want, api.Page{Node: n, Page: i})
	}
	tells(t, x, On(tree.New(x.Pool())), want...)
	ok(t, x.Cut(n, 0))
	ok(t, x.Free(n))
	var left int
	for p, err := range x.Scan(nil, nil) {
		if ok(t, err); string(p.Val) == "other" {
			left++
		}
	}
	if left != len(others) {
		t.Fatalf("%d of %d others' keys are left", left, len(others))
	}
}

// TestOwnMemory: an answer is the caller's.
func TestOwnMemory(t *testing.T) {
	_, x := begun(t)
	n := newFile(t, x)
	b := noise(9, 3*page)
	write(t, x, n, 0, b)
	ok(t, x.SetExtra(n, "name", []byte("value")))
	for range 2 {
		got, err := x.Read(n, 0, 3*page)
		if ok(t, err); !bytes.Equal(got, b) {
			t.Fatal("what was told was changed by the caller")
		}
		clear(got[:cap(got)])
		v, err := x.Extra(n, "name")
		if ok(t, err); string(v) != "value" {
			t.Fatal("what was told was changed by the caller")
		}
		clear(v[:cap(v)])
	}
	val := []byte("given")
	ok(t, x.SetExtra(n, "name", val))
	ok(t, x.Lay(n, 1, b[:page]))
	want := slices.Clone(b[:page])
	clear(val)
	clear(b)
	if v, err := x.Extra(n, "name"); err != nil || string(v) != "given" {
		t.Fatalf("%q, %v", v, err)
	}
	reads(t, x, n, page, want)
}
