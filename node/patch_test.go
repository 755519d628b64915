package node

import (
	"bytes"
	"math"
	"math/rand"
	"slices"
	"testing"

	"bedrock/api"
	"bedrock/code"
	"bedrock/tree"
)

// patched is what Patches tells, without an error.
func patched(t *testing.T, a, b *Table) []Patch {
	t.Helper()
	var l []Patch
	for p, err := range Patches(a, b) {
		ok(t, err)
		if !p.Good() {
			t.Fatalf("%v is told", p)
		}
		l = append(l, p)
	}
	return l
}

func TestPatches(t *testing.T) {
	_, x := begun(t)
	n := newFile(t, x)
	write(t, x, n, 0, noise(1, 40*page))
	s := snapped(t, x)
	if l := patched(t, s, x); len(l) > 0 {
		t.Fatalf("%v", l)
	}
	write(t, x, n, 3*page, noise(2, 2*page))
	ok(t, x.Punch(n, 5*page, 2*page))
	write(t, x, n, 9*page+5, []byte("x"))
	write(t, x, n, 30*page, noise(3, 5*page)) // in two groups
	ok(t, x.Cut(n, 36*page))
	one := slices.Clone(noise(1, 40*page)[9*page : 10*page])
	one[5] = 'x'
	want := []Patch{
		{n, 3, 2, noise(2, 2*page)}, {n, 5, 2, nil}, {n, 9, 1, one},
		{n, 30, 2, noise(3, 5*page)[:2*page]}, {n, 32, 3, noise(3, 5*page)[2*page:]}, {n, 36, 4, nil},
	}
	same := func(a, b Patch) bool {
		return a.Node == b.Node && a.Page == b.Page && a.Pages == b.Pages && bytes.Equal(a.Bytes, b.Bytes)
	}
	if l := patched(t, s, x); !slices.EqualFunc(l, want, same) {
		t.Fatalf("%v", l)
	}
	i := 0
	for range Patches(s, x) { // it may be ended at any time
		if i++; i == 3 {
			break
		}
	}
	ok(t, x.Free(n))
	if l := patched(t, s, x); len(l) != 3 || l[2].Page != 32 || l[2].Pages != 8 || len(l[2].Bytes) > 0 {
		t.Fatalf("%v", l)
	}
}

// All patches let a table have the pages of another one, whatever was done with both.
func TestPatchesMakeOne(t *testing.T) {
	for seed := range int64(40) {
		r := rand.New(rand.NewSource(seed))
		p, x := begun(t)
		for range 3 {
			newFile(t, x)
		}
		change := func(x *Table) {
			for range r.Intn(12) {
				n, at := uint64(1+r.Intn(3)), r.Intn(60)*page
				switch r.Intn(4) {
				case 0, 1:
					write(t, x, n, at+r.Intn(page), noise(r.Int63(), 1+r.Intn(20*page)))
				case 2:
					ok(t, x.Punch(n, at, r.Intn(20*page)))
				case 3:
					ok(t, x.Clone(n, r.Intn(60), uint64(1+r.Intn(3)), r.Intn(60), r.Intn(30)))
				}
			}
		}
		change(x)
		y := snapped(t, x)
		change(x)
		change(y)
		if seed%4 == 0 {
			ok(t, y.Map.Free())
		}
		l := patched(t, y, x)
		z := snapped(t, y)
		for _, q := range l {
			ok(t, z.Apply(q))
		}
		tells(t, z, x)
		for n := range uint64(4) { // nothing else became other
			a, err := y.Attr(n)
			b, err2 := z.Attr(n)
			if a != b || (err == nil) != (err2 == nil) {
				t.Fatalf("%v, %v, was %v, %v", b, err2, a, err)
			}
		}
		if len(patched(t, z, x)) > 0 {
			t.Fatal("there is more to do")
		}
		ok(t, z.Map.Free())
		ok(t, y.Map.Free())
		if ok(t, x.Map.Free()); p.Use().Used != 0 {
			t.Fatalf("%+v", p.Use())
		}
	}
}

func TestApplyRefuses(t *testing.T) {
	_, x := begun(t)
	n := newFile(t, x)
	write(t, x, n, 0, noise(1, 40*page))
	before := state(x)
	for _, p := range []Patch{
		{n, -1, 1, nil}, {n, math.MinInt, 1, nil}, {n, 0, 0, nil}, {n, 0, -1, nil}, {n, 0, 17, nil}, {n, 1, 16, nil},
		{n, 15, 2, nil}, {n, 0, math.MaxInt, nil}, {n, math.MaxInt, 1, nil}, {n, 1 << 32, 1, nil}, {n, 1<<32 - 16, 17, nil},
		{n, 0, 1, make([]byte, 1)}, {n, 0, 1, make([]byte, 2*page)}, {n, 0, 2, make([]byte, page)},
	} {
		if is(t, x.Apply(p), api.ErrArg); p.Good() {
			t.Errorf("%v is good", p)
		}
	}
	ok(t, x.Apply(Patch{n, 1<<32 - 16, 16, nil}))
	ok(t, x.Apply(Patch{99, 0, 16, nil}))
	if state(x) != before {
		t.Error("something is other")
	}
	ok(t, x.Apply(Patch{n, 1<<32 - 16, 16, make([]byte, 16*page)}))
	sized(t, x, n, 40*page, 40)
}

func TestOfPage(t *testing.T) {
	for _, k := range [][]byte{pageKey(1, 0), pageKey(0, 0), pageKey(math.MaxUint64, 1<<32-1)} {
		if !OfPage(k) {
			t.Errorf("%x is none", k)
		}
	}
	far, _ := code.Key([]api.Part{num(nodePart), num(1), num(1 << 32)})
	for _, k := range [][]byte{nil, lastKey(), nodeKey(1), nameKey(1, "name"), key(num(10), num(1), num(2)), append(pageKey(1, 0), 0), {255}, far} {
		if OfPage(k) {
			t.Errorf("%x is one", k)
		}
	}
}

// Where something cannot be read that is told, as the last one.
func TestPatchesSpoilt(t *testing.T) {
	p, l := made(t, single, 60000)
	x := On(tree.New(p))
	n := newFile(t, x)
	e := snapped(t, x)
	write(t, x, n, 0, noise(1, 40*page))
	ok(t, p.Commit(nil))
	g, err := x.group(n, 1)
	ok(t, err)
	l[0].Lose(g.parts[0].block.At)
	var got []Patch
	for p, err := range Patches(e, x) {
		if got = append(got, p); err != nil {
			is(t, err, api.ErrSpoilt)
		}
	}
	if len(got) != 2 || got[0].Pages != 16 || got[1].Pages != 0 {
		t.Errorf("%v", got)
	}
}
