package flow

import (
	"bytes"
	"errors"
	"fmt"
	"math/rand"
	"slices"
	"testing"

	"bedrock/api"
	"bedrock/fs"
	"bedrock/node"
	"bedrock/number"
	"bedrock/snap"
	"bedrock/sum"
)

// none: bytes are no stream, whatever they are to be received as.
func none(t *testing.T, s *snap.Sets, what string, b []byte) {
	t.Helper()
	for _, name := range []string{"new", "b"} {
		if err := Receive(s, b, name, "new"); !errors.Is(err, api.ErrStream) {
			t.Fatalf("%s, to %s: %v", what, name, err)
		}
	}
}

// streams are one of all, and one that goes on from the last snapshot of b.
func streams(t *testing.T) (*snap.Sets, [][]byte) {
	t.Helper()
	s, r := pair(t)
	return r, [][]byte{sent(t, s, "a", "", "three"), sent(t, s, "a", "two", "three")}
}

func TestCutAndLengthened(t *testing.T) {
	r, l := streams(t)
	before := state(r)
	for _, b := range l {
		for i := range b {
			none(t, r, "cut behind", b[:i])
			none(t, r, "cut ahead", b[i+1:])
			none(t, r, "without a byte", slices.Delete(slices.Clone(b), i, i+1))
			none(t, r, "with one more", slices.Insert(slices.Clone(b), i, b[i]))
			none(t, r, "a piece cut out", slices.Delete(slices.Clone(b), i/2, i+1))
		}
		for _, more := range [][]byte{{0}, {255}, make([]byte, 4), make([]byte, 256), b, b[:100], b[len(b)-4:]} {
			none(t, r, "lengthened behind", slices.Concat(b, more))
			none(t, r, "lengthened ahead", slices.Concat(more, b))
		}
		none(t, r, "with its sum behind it", number.Append(slices.Clone(b), uint64(sum.Sum(b)), sumSize))
		none(t, r, "very long", append(slices.Clone(b), make([]byte, api.MaxStream)...))
	}
	for _, b := range [][]byte{nil, {}, {0}, []byte("bdrkflow"), make([]byte, 48), bytes.Repeat([]byte{255}, 99), noise(3, 1000)} {
		none(t, r, fmt.Sprintf("%x", b), b)
	}
	if state(r) != before {
		t.Error("something is other")
	}
	ok(t, Receive(r, l[0], "new", "three"))
	ok(t, Receive(r, l[1], "b", "three"))
}

// turned is b with bits turned, those of bits from one on.
func turned(b []byte, from int, bits uint32) []byte {
	out := slices.Clone(b)
	for i := range 32 {
		if at := from + i; at/8 < len(b) {
			out[at/8] ^= byte(bits>>i&1) << (at % 8)
		}
	}
	return out
}

func TestTurnedBits(t *testing.T) {
	t.Parallel()
	rnd := rand.New(rand.NewSource(1))
	r, l := streams(t)
	for _, b := range l {
		for at := range 8 * len(b) {
			for _, bits := range []uint32{1, 3, 1<<31 | 1, 1<<32 - 1, rnd.Uint32() | 1, 0x82f63b78, 0xedb88320, 0x8f6e37a1} {
				if c := turned(b, at, bits); !bytes.Equal(b, c) {
					none(t, r, fmt.Sprintf("%x turned at %d", bits, at), c)
				}
			}
		}
		for range 2000 { // many more than need be told
			c := slices.Clone(b)
			for range 1 + rnd.Intn(9) {
				c[rnd.Intn(len(c))] ^= byte(1 + rnd.Intn(255))
			}
			if !bytes.Equal(b, c) {
				none(t, r, "turned here and there", c)
			}
		}
	}
}

// summed is what a stream would have around these bytes.
func summed(b []byte) []byte {
	out := number.Append([]byte(mark), uint64(len(mark)+sizeSize+len(b)+sumSize), sizeSize)
	out = append(out, b...)
	return number.Append(out, uint64(sum.Sum(out)), sumSize)
}

// Bytes with a good sum that are no stream all the same: each is refused, or comes to be; nothing panics, and with an error nothing is changed.
func TestForged(t *testing.T) {
	t.Parallel()
	rnd := rand.New(rand.NewSource(2))
	_, l := streams(t)
	inner := func(b []byte) []byte { return b[len(mark)+sizeSize : len(b)-sumSize] }
	head := 4 * wordSize
	for k, b := range l {
		if !bytes.Equal(summed(inner(b)), b) {
			t.Fatal("the form of a stream is another one")
		}
		r, _ := streams(t)
		name := []string{"new", "b"}[k]
		for i := range len(inner(b)) {
			forged(t, r, summed(inner(b)[:i]), name)
		}
		for range 1500 {
			c := slices.Clone(inner(b))
			for range 1 + rnd.Intn(3) {
				i := head + rnd.Intn(len(c)-head)
				switch rnd.Intn(4) {
				case 0:
					c[i] ^= 1 << rnd.Intn(8)
				case 1:
					c[i] = byte(rnd.Intn(256))
				case 2:
					c = slices.Delete(c, i, min(i+1+rnd.Intn(9), len(c)))
				case 3:
					c = slices.Insert(c, i, c[:rnd.Intn(i)]...)
				}
			}
			forged(t, r, summed(c), name)
		}
	}
}

// forged receives what may be no stream, and undoes it.
func forged(t *testing.T, r *snap.Sets, b []byte, name string) {
	t.Helper()
	before := state(r)
	r.Pool().Try(func() error {
		err := Receive(r, b, name, "new")
		switch {
		case err != nil && state(r) != before:
			t.Fatalf("%v, and something is other", err)
		case err == nil:
			poke(r, name)
		}
		return api.ErrLoop
	})
}

// poke asks a tree that may be none.
func poke(r *snap.Sets, name string) {
	f, err := r.Tree(name)
	if err != nil {
		return
	}
	for n := range uint64(9) {
		f.Stat(n)
		f.Read(boss, n, 0, 9999)
		f.List(boss, n, "", 9)
		f.Extras(boss, n)
		f.Target(n)
		f.Walk(boss, n, "../../one", true)
		f.Rename(boss, 1, "one", n, "x", 0)
		f.Write(boss, n, 300, []byte("text"))
		f.Cut(boss, n, 10)
	}
	Send(r, name, "", "new")
	r.Rollback(name, "new")
}

// change as bytes.
func (c change) bytes() []byte {
	w := &writer{}
	w.change(c)
	return w.b
}

// Changes that Send would not tell.
func TestStrangeChanges(t *testing.T) {
	r, _ := streams(t)
	head := make([]byte, 4*wordSize)
	head[8] = 1
	page := make([]byte, api.PageSize)
	for what, b := range map[string][]byte{
		"no kind":          {0},
		"another kind":     {5},
		"an empty key":     change{kind: putPair}.bytes(),
		"an empty key, 2":  change{kind: delPair}.bytes(),
		"a long key":       change{kind: putPair, key: make([]byte, 161)}.bytes(),
		"a long key, 2":    change{kind: delPair, key: make([]byte, 161)}.bytes(),
		"a long value":     change{kind: putPair, key: []byte("k"), val: make([]byte, 401)}.bytes(),
		"a page's pair":    change{kind: putPair, key: []byte{1, 1, 1, 2, 0}, val: make([]byte, 5)}.bytes(),
		"a page's pair, 2": change{kind: delPair, key: []byte{1, 1, 1, 2, 1, 3}}.bytes(),
		"no such key":      change{kind: delPair, key: []byte("none")}.bytes(),
		"no pages":         change{kind: putPages, patch: node.Patch{Node: 2}}.bytes(),
		"no holes":         change{kind: delPages, patch: node.Patch{Node: 2}}.bytes(),
		"many holes":       change{kind: delPages, patch: node.Patch{Node: 2, Pages: 17}}.bytes(),
		"of two groups":    change{kind: delPages, patch: node.Patch{Node: 2, Page: 15, Pages: 2}}.bytes(),
		"far away":         change{kind: putPages, patch: node.Patch{Node: 2, Page: 1 << 32, Pages: 1, Bytes: page}}.bytes(),
		"farther":          change{kind: putPages, patch: node.Patch{Node: 2, Page: 1<<40 - 1, Pages: 1, Bytes: page}}.bytes(),
		"too few bytes":    change{kind: putPages, patch: node.Patch{Node: 2, Pages: 2, Bytes: page}}.bytes(),
	} {
		if err := Receive(r, summed(slices.Concat(head, b)), "new", "one"); !errors.Is(err, api.ErrStream) {
			t.Errorf("%s: %v", what, err)
		}
	}
}

// What is around the changes is as it should be, each part for itself.
func TestStrangeHeads(t *testing.T) {
	r, l := streams(t)
	resum := func(b []byte) []byte { return number.Append(b, uint64(sum.Sum(b)), sumSize) }
	for _, b := range l {
		for _, i := range []int{0, len(mark) - 1, len(mark), len(mark) + sizeSize - 1} {
			c := slices.Clone(b[:len(b)-sumSize])
			c[i] ^= 1
			none(t, r, fmt.Sprintf("byte %d turned", i), resum(c))
		}
		hole := change{kind: delPages, patch: node.Patch{Node: 2, Page: 99, Pages: 1}}.bytes()
		none(t, r, "more than it should have", resum(slices.Concat(b[:len(b)-sumSize], hole)))
		inner := b[len(mark)+sizeSize : len(b)-sumSize]
		is(t, r.Pool().Try(func() error {
			name := map[bool]string{true: "new", false: "b"}[&b[0] == &l[0][0]]
			ok(t, Receive(r, summed(slices.Concat(inner, hole)), name, "new"))
			return api.ErrLoop
		}), api.ErrLoop)
		none(t, r, "too long", summed(slices.Concat(inner, bytes.Repeat(hole, api.MaxStream/len(hole)))))
	}
}

// counted is how many nodes, names, further attributes, limits and pages of data there are.
func counted(t *testing.T, f *fs.FS) int {
	t.Helper()
	sum := 0
	for n, err := range node.On(f.Map()).Nodes() {
		ok(t, err)
		a, err := f.Stat(n)
		ok(t, err)
		l, err := f.List(boss, n, "", 1<<20)
		if a.Kind == api.Dir {
			ok(t, err)
		}
		e, err := f.Extras(boss, n)
		ok(t, err)
		sum += 1 + a.Pages + len(l) + len(e)
	}
	for kind := 1; kind < 3; kind++ {
		for id := range 2000 {
			q, _ := f.Limit(kind, id)
			if q != (api.Quota{}) {
				sum++
			}
		}
	}
	return sum
}

// A stream has at most so many bytes.
func small(t *testing.T, s *snap.Sets, name, from, to string) {
	t.Helper()
	most := counted(t, at(t, s, name, to))
	if from != "" {
		most += counted(t, at(t, s, name, from))
	}
	if b := sent(t, s, name, from, to); len(b) > 1200+1000*most {
		t.Errorf("from %q to %q: %d bytes for %d things", from, to, len(b), most)
	}
}

func TestSizes(t *testing.T) {
	s := begin(t, 1)
	ok(t, s.New("a", true))
	f := treeOf(t, s, "a")
	do := []func(){
		func() {},
		func() { garden(t, f) },
		func() {
			for i := range 100 {
				_, err := f.Create(api.Cred{Uid: 100 + i}, 3, fmt.Sprint("file", i), api.New{Kind: api.File})
				ok(t, err)
				ok(t, f.SetLimit(2, 300+i, api.Quota{Pages: 1}))
			}
		},
		func() { ok(t, f.Write(boss, 2, 10000, noise(1, 60000))) },
		func() { ok(t, f.Punch(boss, 2, 0, 60000)) },
		func() {
			ok(t, f.Remove(boss, 1, "File"))
			ok(t, f.Remove(boss, 1, "other name"))
		},
		func() {
			for i := range 100 {
				ok(t, f.Remove(boss, 3, fmt.Sprint("file", i)))
				ok(t, f.SetLimit(2, 300+i, api.Quota{}))
			}
		},
	}
	for i, f := range do {
		f()
		ok(t, s.Snap("a", fmt.Sprint(i)))
		small(t, s, "a", "", fmt.Sprint(i))
		for j := range i {
			small(t, s, "a", fmt.Sprint(j), fmt.Sprint(i))
		}
	}
}

// Of k pages that were written, of one file, a stream has at most 1,200 and 700 k bytes, wherever they are.
func TestWrittenPages(t *testing.T) {
	t.Parallel()
	rnd := rand.New(rand.NewSource(3))
	s := must(made(t, single, 1<<18, 1))
	ok(t, s.New("a", false))
	f := treeOf(t, s, "a")
	for i := range 200 {
		file(t, f, fmt.Sprint("file", i), "text")
	}
	n := file(t, f, "x", "")
	for i := range 80 {
		ok(t, f.Write(boss, n, i*40*api.PageSize, noise(i, 30*api.PageSize)))
	}
	ok(t, s.Snap("a", "last"))
	for i, k := range []int{1, 2, 3, 7, 20, 100, 256, 499, 500} {
		for j, next := range []func(i int) int{
			func(i int) int { return i },
			func(i int) int { return 3 * i },
			func(i int) int { return 17 * i },
			func(i int) int { return 1<<20 + 100*i },
			func(i int) int { return rnd.Intn(1 << 25) },
		} {
			for p := range k {
				ok(t, f.Write(boss, n, next(p)*api.PageSize, noise(i*p+j, 1+rnd.Intn(api.PageSize))))
			}
			ok(t, s.Snap("a", "next"))
			if b := sent(t, s, "a", "last", "next"); len(b) > 1200+700*k {
				t.Errorf("%d bytes for %d pages", len(b), k)
			}
			ok(t, s.DropSnap("a", "last"))
			ok(t, s.Snap("a", "last"))
			ok(t, s.DropSnap("a", "next"))
		}
	}
}
