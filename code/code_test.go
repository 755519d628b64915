package code

import (
	"bytes"
	"cmp"
	"errors"
	"math"
	"math/rand"
	"slices"
	"strings"
	"testing"

	"bedrock/api"
)

func number(n uint64) api.Part { return api.Part{Kind: api.Number, Num: n} }

func text(s string) api.Part { return api.Part{Kind: api.Text, Text: s} }

func key(t *testing.T, parts []api.Part) []byte {
	t.Helper()
	k, err := Key(parts)
	if err != nil {
		t.Fatalf("Key(%v): %v", parts, err)
	}
	return k
}

// ahead is the order of keys by the words of 2.1.
func ahead(a, b []api.Part) int {
	return slices.CompareFunc(a, b, func(p, q api.Part) int {
		if c := cmp.Compare(p.Kind, q.Kind); c != 0 {
			return c
		}
		if c := cmp.Compare(p.Num, q.Num); c != 0 {
			return c
		}
		return strings.Compare(p.Text, q.Text)
	})
}

// edgeParts are parts at the edges of their forms.
func edgeParts() []api.Part {
	l := []api.Part{number(math.MaxUint64)}
	for i := range 64 {
		l = append(l, number(1<<i), number(1<<i-1), number(1<<i+1))
	}
	for _, s := range []string{"", "\x00", "\x00\x00", "\x00\x01", "\x01", "\x01\x00", "\x01\x01", "\x01\x02", "\x02", "\x03", "\x08", "\x09", "\x0a", "a", "a\x00", "a\x00b", "a\x01", "a\x02", "ab", "\xff", "\xff\x00", "\xff\xff", "ä"} {
		l = append(l, text(s))
	}
	for _, s := range []string{"\x00", "\x01", "\x02", "x", "\xff"} {
		l = append(l, text(strings.Repeat(s, 59)), text(strings.Repeat(s, 60)))
	}
	return l
}

func somePart(r *rand.Rand, edges []api.Part) api.Part {
	switch r.Intn(3) {
	case 0:
		return number(r.Uint64() >> r.Intn(64))
	case 1:
		b := make([]byte, r.Intn(4))
		for i := range b {
			b[i] = []byte{0, 1, 2, 9, 'a', 255}[r.Intn(6)]
		}
		return text(string(b))
	}
	return edges[r.Intn(len(edges))]
}

func someKey(r *rand.Rand, edges []api.Part) []api.Part {
	var l []api.Part
	for range r.Intn(9) {
		l = append(l, somePart(r, edges))
	}
	return l
}

func checkOrder(t *testing.T, a, b []api.Part) {
	t.Helper()
	if got, want := bytes.Compare(key(t, a), key(t, b)), ahead(a, b); got != want {
		t.Fatalf("the bytes of %v and %v are ordered %d, wanted %d", a, b, got, want)
	}
}

func TestKeysOfOnePartAreInOrder(t *testing.T) {
	l := edgeParts()
	for _, p := range l {
		for _, q := range l {
			checkOrder(t, []api.Part{p}, []api.Part{q})
			checkOrder(t, []api.Part{p, number(5)}, []api.Part{q, text("")})
			checkOrder(t, []api.Part{text("a"), p}, []api.Part{text("a"), q, q})
		}
	}
}

func TestKeysAreInOrder(t *testing.T) {
	r := rand.New(rand.NewSource(1))
	edges := edgeParts()
	for range 20000 {
		a, b := someKey(r, edges), someKey(r, edges)
		n := r.Intn(min(len(a), len(b)) + 1)
		copy(a, b[:n])
		checkOrder(t, a, b)
	}
}

func TestBeginningsOfKeys(t *testing.T) {
	r := rand.New(rand.NewSource(2))
	edges := edgeParts()
	for range 2000 {
		a := someKey(r, edges)
		k := key(t, a)
		for i := range a {
			if !bytes.HasPrefix(k, key(t, a[:i])) {
				t.Fatalf("the bytes of the first %d parts of %v are not the beginning", i, a)
			}
		}
	}
}

func TestKeysAreShort(t *testing.T) {
	for _, p := range edgeParts() {
		most := 9
		if p.Kind == api.Text {
			most = 2*len(p.Text) + 3
		}
		if k := key(t, []api.Part{p}); len(k) > most {
			t.Errorf("the key of %v has %d bytes, wanted %d at most", p, len(k), most)
		}
	}
}

func TestPartsOfKeys(t *testing.T) {
	r := rand.New(rand.NewSource(3))
	edges := edgeParts()
	for range 5000 {
		a := someKey(r, edges)
		k := key(t, a)
		was := bytes.Clone(k)
		got, err := Parts(k)
		if err != nil || !slices.Equal(got, a) {
			t.Fatalf("Parts of the key of %v: %v, %v", a, got, err)
		}
		clear(k)
		if !slices.Equal(got, a) {
			t.Fatal("what Parts answered changes with the bytes that it was given")
		}
		if !bytes.Equal(was, key(t, a)) {
			t.Fatal("a key's bytes change")
		}
	}
}

func TestTheEmptyKey(t *testing.T) {
	for _, l := range [][]api.Part{nil, {}} {
		if k, err := Key(l); len(k) > 0 || err != nil {
			t.Errorf("Key of no parts: %v, %v", k, err)
		}
	}
	for _, b := range [][]byte{nil, {}} {
		if l, err := Parts(b); len(l) > 0 || err != nil {
			t.Errorf("Parts of no bytes: %v, %v", l, err)
		}
	}
}

func TestKeysThatAreNone(t *testing.T) {
	long := strings.Repeat("a", 61)
	for _, x := range []struct {
		l    []api.Part
		want error
	}{
		{make([]api.Part, 9), api.ErrMany},
		{append(make([]api.Part, 8), number(1)), api.ErrMany},
		{make([]api.Part, 1000), api.ErrMany},
		{make([]api.Part, 8), api.ErrArg},
		{[]api.Part{{}}, api.ErrArg},
		{[]api.Part{{Kind: 3}}, api.ErrArg},
		{[]api.Part{{Kind: -1}}, api.ErrArg},
		{[]api.Part{{Kind: math.MaxInt}}, api.ErrArg},
		{[]api.Part{{Kind: math.MinInt, Text: long}}, api.ErrArg},
		{[]api.Part{{Kind: 3, Text: long}}, api.ErrArg},
		{[]api.Part{number(1), {Kind: api.Number, Text: "a"}}, api.ErrArg},
		{[]api.Part{{Kind: api.Number, Num: 1, Text: long}}, api.ErrArg},
		{[]api.Part{{Kind: api.Text, Num: 1}}, api.ErrArg},
		{[]api.Part{{Kind: api.Text, Num: 1, Text: "a"}}, api.ErrArg},
		{[]api.Part{{Kind: api.Text, Num: 1, Text: long}}, api.ErrArg},
		{[]api.Part{text(long)}, api.ErrLong},
		{[]api.Part{number(1), text(strings.Repeat("\x00", 5000))}, api.ErrLong},
		{[]api.Part{text(long), {}}, api.ErrLong},
		{[]api.Part{{}, text(long)}, api.ErrArg},
	} {
		if k, err := Key(x.l); !errors.Is(err, x.want) || k != nil {
			t.Errorf("Key(%v) is %v, %v, wanted %v", x.l, k, err, x.want)
		}
	}
}

func TestKeysOfAsMuchAsMayBe(t *testing.T) {
	l := slices.Repeat([]api.Part{text(strings.Repeat("\x00", 60))}, 8)
	got, err := Parts(key(t, l))
	if err != nil || !slices.Equal(got, l) {
		t.Errorf("Parts of the longest key: %v, %v", got, err)
	}
	l = slices.Repeat([]api.Part{number(math.MaxUint64)}, 8)
	if got, err := Parts(key(t, l)); err != nil || !slices.Equal(got, l) {
		t.Errorf("Parts of eight numbers: %v, %v", got, err)
	}
}

// checkForm: what Parts takes apart must be just what Key puts together; all else is ErrForm.
func checkForm(t *testing.T, b []byte) {
	t.Helper()
	l, err := Parts(b)
	if err == nil {
		if k, err := Key(l); err != nil || !bytes.Equal(k, b) {
			t.Fatalf("Parts(%v) is %v, whose key is %v, %v", b, l, k, err)
		}
	} else if !errors.Is(err, api.ErrForm) || l != nil {
		t.Fatalf("Parts(%v) is %v, %v", b, l, err)
	}
}

func TestPartsOfAnyShortBytes(t *testing.T) {
	checkForm(t, nil)
	for x := range 1 << 24 {
		b := []byte{byte(x >> 16), byte(x >> 8), byte(x)}
		// Of most bytes nothing hangs on which one of many it is.
		if b[0] > 12 || b[1] > 12 && b[1] < 250 || b[2] > 12 && b[2] < 250 {
			continue
		}
		checkForm(t, b[:1])
		checkForm(t, b[:2])
		checkForm(t, b)
	}
}

func TestPartsOfKeysThatWereChanged(t *testing.T) {
	r := rand.New(rand.NewSource(4))
	edges := edgeParts()
	for range 5000 {
		k := key(t, someKey(r, edges))
		if len(k) == 0 {
			continue
		}
		checkForm(t, k[:r.Intn(len(k))])
		checkForm(t, append(bytes.Clone(k), byte(r.Intn(12))))
		k[r.Intn(len(k))] = byte(r.Intn(256))
		checkForm(t, k)
	}
}

func TestPartsOfTooMuch(t *testing.T) {
	nine := bytes.Repeat(key(t, []api.Part{number(700)}), 9)
	texts := bytes.Repeat(key(t, []api.Part{text("a")}), 9)
	full := key(t, []api.Part{text(strings.Repeat("a", 60))})
	long := slices.Insert(bytes.Clone(full), 5, 'a')
	for _, b := range [][]byte{nine, texts, long, bytes.Repeat([]byte{'a'}, 1<<20)} {
		if l, err := Parts(b); !errors.Is(err, api.ErrForm) || l != nil {
			t.Errorf("Parts of %d bytes: %v, %v", len(b), l, err)
		}
	}
}
