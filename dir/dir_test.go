package dir

import (
	"errors"
	"fmt"
	"math"
	"slices"
	"strings"
	"testing"

	"bedrock/api"
	"bedrock/code"
	"bedrock/node"
	"bedrock/pool"
	"bedrock/tree"
)

var shapes = []api.Shape{{Data: 1}, {Data: 1, Level: 1}, {Data: 2, Level: 1}, {Data: 4, Level: 2}}

func ok(t *testing.T, err error) {
	t.Helper()
	if err != nil {
		t.Fatal(err)
	}
}

func is(t *testing.T, err, want error) {
	t.Helper()
	if !errors.Is(err, want) {
		t.Fatalf("%v, wanted %v", err, want)
	}
}

func made(t *testing.T, shape api.Shape, size int) (*pool.Pool, []*api.Disk) {
	t.Helper()
	var l []*api.Disk
	for range shape.Data + shape.Level {
		l = append(l, api.NewDisk(size))
	}
	p, err := pool.Format(l, shape, 7)
	ok(t, err)
	return p, l
}

func begun(t *testing.T) *tree.Map {
	t.Helper()
	p, _ := made(t, shapes[0], 20000)
	return tree.New(p)
}

func file(name string, n uint64) api.Entry { return api.Entry{Name: name, Node: n, Kind: api.File} }

func enter(t *testing.T, m *tree.Map, d uint64, fold bool, names ...string) {
	t.Helper()
	for i, name := range names {
		ok(t, Enter(m, d, fold, file(name, uint64(i)+1)))
	}
}

func looks(t *testing.T, m *tree.Map, d uint64, fold bool, name string, want api.Entry) {
	t.Helper()
	got, err := Look(m, d, fold, name)
	if err != nil || got != want {
		t.Fatalf("Look(%d, %v, %q) is %v, %v, wanted %v", d, fold, name, got, err, want)
	}
}

func missing(t *testing.T, m *tree.Map, d uint64, fold bool, name string) {
	t.Helper()
	got, err := Look(m, d, fold, name)
	if is(t, err, api.ErrMissing); got != (api.Entry{}) {
		t.Fatalf("with an error %v", got)
	}
}

func lists(t *testing.T, m *tree.Map, d uint64, fold bool, after string, most int, want ...string) {
	t.Helper()
	l, err := List(m, d, fold, after, most)
	ok(t, err)
	var got []string
	for _, e := range l {
		got = append(got, e.Name)
	}
	if !slices.Equal(got, want) {
		t.Fatalf("List(%d, %v, %q, %d) is %q, wanted %q", d, fold, after, most, got, want)
	}
}

func TestLook(t *testing.T) {
	m := begun(t)
	for i, e := range []api.Entry{{Name: "a", Node: 1, Kind: api.File}, {Name: "B", Node: 1<<62 - 1, Kind: api.Dir}, {Name: "Äß", Node: 3, Kind: api.Link}, {Name: strings.Repeat("\x01", 40), Node: 1 << 40, Kind: api.Dir}, {Name: "\xff\xfe", Node: 255, Kind: api.Link}} {
		for _, fold := range []bool{false, true} {
			d := uint64(i * 2)
			if fold {
				d++
			}
			ok(t, Enter(m, d, fold, e))
			looks(t, m, d, fold, e.Name, e)
			missing(t, m, d, fold, e.Name[:len(e.Name)-1]+"q")
			missing(t, m, d+100, fold, e.Name)
		}
	}
}

// TestOneName is 10.3: which names are one.
func TestOneName(t *testing.T) {
	m := begun(t)
	ok(t, Enter(m, 1, true, file("ÄbΣЯ", 10)))
	for _, name := range []string{"ÄbΣЯ", "äbσя", "ÄBςЯ", "äBΣя"} {
		looks(t, m, 1, true, name, file("ÄbΣЯ", 10)) // the name that it was entered with
		is(t, Enter(m, 1, true, file(name, 11)), api.ErrExists)
	}
	missing(t, m, 1, true, "AbΣЯ")
	ok(t, Leave(m, 1, true, "äbςЯ"))
	missing(t, m, 1, true, "ÄbΣЯ")
	ok(t, Enter(m, 1, true, file("äbσя", 12)))
	looks(t, m, 1, true, "ÄBΣЯ", file("äbσя", 12))

	ok(t, Enter(m, 2, false, file("Ab", 10)))
	is(t, Enter(m, 2, false, file("Ab", 11)), api.ErrExists)
	missing(t, m, 2, false, "ab")
	is(t, Leave(m, 2, false, "ab"), api.ErrMissing)
	ok(t, Enter(m, 2, false, file("ab", 12)))
	looks(t, m, 2, false, "Ab", file("Ab", 10))
	looks(t, m, 2, false, "ab", file("ab", 12))
	ok(t, Leave(m, 2, false, "Ab"))
	looks(t, m, 2, false, "ab", file("ab", 12))
}

// TestFoldAnew: a directory without entries may be asked with another fold.
func TestFoldAnew(t *testing.T) {
	m := begun(t)
	for i := range 6 {
		fold := i%2 == 0
		enter(t, m, 4, fold, "Name")
		err := Enter(m, 4, fold, file("name", 2))
		if fold {
			is(t, err, api.ErrExists)
		} else {
			ok(t, err)
			ok(t, Leave(m, 4, fold, "name"))
		}
		ok(t, Leave(m, 4, fold, "Name"))
		lists(t, m, 4, fold, "", 9)
	}
	if m.Root() != (api.Ptr{}) {
		t.Error("something is left in the map")
	}
}

func TestApart(t *testing.T) {
	m := begun(t)
	numbers := []uint64{0, 1, 2, 9, 10, 11, 255, 256, 257, 1 << 32, 1<<62 - 1, 1 << 62, math.MaxUint64 - 1, math.MaxUint64}
	for i, d := range numbers {
		ok(t, Enter(m, d, i%2 == 0, file("Same", uint64(i)+1)))
		ok(t, Enter(m, d, i%2 == 0, file("own"+fmt.Sprint(d), uint64(i)+1)))
	}
	for i, d := range numbers {
		own := "own" + fmt.Sprint(d)
		want := []string{"Same", own}
		if i%2 == 0 {
			want = []string{own, "Same"}
		}
		lists(t, m, d, i%2 == 0, "", 9, want...)
		looks(t, m, d, i%2 == 0, "Same", file("Same", uint64(i)+1))
		lists(t, m, d+3, i%2 == 0, "zzz", 9)
	}
	for i, d := range numbers {
		ok(t, Leave(m, d, i%2 == 0, "Same"))
		is(t, Leave(m, d, i%2 == 0, "Same"), api.ErrMissing)
		for j, other := range numbers[i+1:] {
			looks(t, m, other, (i+1+j)%2 == 0, "Same", file("Same", uint64(i+j)+2))
		}
	}
}

func TestList(t *testing.T) {
	m := begun(t)
	lists(t, m, 1, false, "", 9)
	enter(t, m, 1, false, "b", "B", "ab", "a", "\x01", "é", "\xff", "a\x01", "ä", "abc")
	all := []string{"\x01", "B", "a", "a\x01", "ab", "abc", "b", "ä", "é", "\xff"}
	for i := range len(all) + 2 {
		lists(t, m, 1, false, "", i, all[:min(i, len(all))]...)
	}
	for i, after := range all {
		lists(t, m, 1, false, after, 100, all[i+1:]...)
		lists(t, m, 1, false, after, 1, all[i+1:min(i+2, len(all))]...)
		lists(t, m, 1, false, after, 2, all[i+1:min(i+3, len(all))]...)
	}
	for _, most := range []int{0, -1, math.MinInt} {
		lists(t, m, 1, false, "", most)
		lists(t, m, 1, false, "a", most)
	}
	lists(t, m, 1, false, "", math.MaxInt, all...)
	lists(t, m, 1, false, "A", math.MaxInt, all[1:]...) // which is no entry's name
	lists(t, m, 1, false, "aa", math.MaxInt, all[4:]...)
	lists(t, m, 1, false, "\xff\xff", math.MaxInt)
	lists(t, m, 1, false, strings.Repeat("a", 40), math.MaxInt, all[3+1:]...)
}

// TestListByFolds is 10.5's order of a directory with fold: by the Folds' bytes, not by those of the names.
func TestListByFolds(t *testing.T) {
	m := begun(t)
	enter(t, m, 1, true, "b", "_", "Z", "[", "A", "Ö", "ä", "ß", "ς", "Σa", "Я", "Ѐ", "ΡΡ")
	all := []string{"[", "_", "A", "b", "Z", "ß", "ä", "Ö", "ΡΡ", "ς", "Σa", "Я", "Ѐ"}
	lists(t, m, 1, true, "", 100, all...)
	for i, after := range all {
		lists(t, m, 1, true, after, 100, all[i+1:]...)
		lists(t, m, 1, true, Fold(after), 2, all[i+1:min(i+3, len(all))]...)
	}
	lists(t, m, 1, true, "a", 1, "b")
	lists(t, m, 1, true, "B", 1, "Z")
	lists(t, m, 1, true, "Σ", 100, all[10:]...)
	lists(t, m, 1, true, "ЯЯ", 100, "Ѐ")
}

// TestListIsTheCallers: an answer does not change by what comes later, nor what comes later by it.
func TestListIsTheCallers(t *testing.T) {
	m := begun(t)
	enter(t, m, 1, true, "a", "B", "c")
	l, err := List(m, 1, true, "", 2)
	ok(t, err)
	_ = append(l[:cap(l)], file("x", 1))
	for i := range l[:cap(l)] {
		l[:cap(l)][i] = file("x", 99)
	}
	lists(t, m, 1, true, "", 9, "a", "B", "c")
	l, err = List(m, 1, true, "", 9)
	ok(t, err)
	ok(t, Leave(m, 1, true, "b"))
	ok(t, Enter(m, 1, true, file("b", 44)))
	if !slices.Equal(l, []api.Entry{file("a", 1), file("B", 2), file("c", 3)}) {
		t.Errorf("the list has become %v", l)
	}
}

func TestWrongNames(t *testing.T) {
	m := begun(t)
	enter(t, m, 1, false, "a")
	root := m.Root()
	for _, name := range []string{"", ".", "..", "a/b", "/", "\x00", strings.Repeat("n", 41)} {
		for _, fold := range []bool{false, true} {
			e, err := Look(m, 1, fold, name)
			if is(t, err, api.ErrName); e != (api.Entry{}) {
				t.Errorf("with an error %v", e)
			}
			is(t, Leave(m, 1, fold, name), api.ErrName)
			is(t, Enter(m, 1, fold, file(name, 1)), api.ErrName)
			is(t, Enter(m, 1, fold, api.Entry{Name: name}), api.ErrName) // ahead of ErrArg
			if name == "" {
				continue // all, of List
			}
			for _, most := range []int{-1, 0, 9} {
				l, err := List(m, 1, fold, name, most)
				if is(t, err, api.ErrName); l != nil {
					t.Errorf("with an error %v", l)
				}
			}
		}
	}
	if m.Root() != root {
		t.Error("something was changed")
	}
}

func TestWrongEntries(t *testing.T) {
	m := begun(t)
	enter(t, m, 1, false, "a")
	root := m.Root()
	for _, name := range []string{"a", "b"} { // ahead of ErrExists
		for _, n := range []uint64{0, 1 << 62, 1<<62 + 1, 1 << 63, math.MaxUint64} {
			is(t, Enter(m, 1, false, file(name, n)), api.ErrArg)
		}
		for _, kind := range []api.NodeKind{0, 4, 5, -1, 256 + api.File, math.MinInt} {
			is(t, Enter(m, 1, false, api.Entry{Name: name, Node: 1, Kind: kind}), api.ErrArg)
		}
	}
	is(t, Enter(m, 1, false, file("a", 2)), api.ErrExists)
	is(t, Enter(m, 1, false, api.Entry{Name: "a", Node: 1, Kind: api.Dir}), api.ErrExists)
	is(t, Leave(m, 1, false, "b"), api.ErrMissing)
	is(t, Leave(m, 2, false, "a"), api.ErrMissing)
	if m.Root() != root {
		t.Error("something was changed")
	}
	looks(t, m, 1, false, "a", file("a", 1))
}

// keyOf is a key of any parts, numbers and texts.
func keyOf(t *testing.T, parts ...any) []byte {
	t.Helper()
	var l []api.Part
	for _, p := range parts {
		switch x := p.(type) {
		case int:
			l = append(l, api.Part{Kind: api.Number, Num: uint64(x)})
		case string:
			l = append(l, api.Part{Kind: api.Text, Text: x})
		}
	}
	k, err := code.Key(l)
	ok(t, err)
	return k
}

// TestBesideOthers: a map has more than directories: all their keys have 10 as their first part, and what has another one is not told, and stays.
func TestBesideOthers(t *testing.T) {
	m := begun(t)
	table := node.On(m)
	n, err := table.Make(api.Attr{Kind: api.File})
	ok(t, err)
	ok(t, table.SetExtra(n, "name", []byte("value")))
	for first := range 20 {
		if first != 10 && first != 0 && first != 1 {
			ok(t, m.Put(keyOf(t, first, 1, "name"), nil))
		}
	}
	var others []string
	for p, err := range m.Scan(nil, nil) {
		ok(t, err)
		others = append(others, string(p.Key))
	}
	numbers := []uint64{0, 1, 2, 9, 10, 11, 12, math.MaxUint64}
	for _, d := range numbers {
		lists(t, m, d, false, "", 9)
		missing(t, m, d, false, "name")
		enter(t, m, d, false, "name", "other")
	}
	for p, err := range m.Scan(nil, nil) {
		ok(t, err)
		l, err := code.Parts(p.Key)
		if ours := err == nil && l[0] == (api.Part{Kind: api.Number, Num: 10}); ours == slices.Contains(others, string(p.Key)) {
			t.Errorf("the key %x", p.Key)
		}
	}
	for _, d := range numbers {
		lists(t, m, d, false, "", 9, "name", "other")
		ok(t, Leave(m, d, false, "other"))
		ok(t, Leave(m, d, false, "name"))
	}
	var left []string
	for p, err := range m.Scan(nil, nil) {
		ok(t, err)
		left = append(left, string(p.Key))
	}
	if !slices.Equal(left, others) {
		t.Errorf("%q are left of %q", left, others)
	}
}

// TestRowsAreFree: entries that were left take no room.
func TestRowsAreFree(t *testing.T) {
	m := begun(t)
	before := m.Pool().Use()
	for i := range 300 {
		ok(t, Enter(m, uint64(i%3), i%2 == 0, file(fmt.Sprint("Name ", i), uint64(i)+1)))
	}
	for i := range 300 {
		ok(t, Leave(m, uint64(i%3), i%2 == 0, fmt.Sprint("Name ", i)))
	}
	if use := m.Pool().Use(); use != before || m.Root() != (api.Ptr{}) {
		t.Errorf("in use are %+v, before %+v", use, before)
	}
}

// TestMany: a great directory is told piece by piece.
func TestMany(t *testing.T) {
	m := begun(t)
	var want []string
	for i := range 2000 {
		name := fmt.Sprintf("Entry %04d", i*7919%2000)
		want = append(want, name)
		ok(t, Enter(m, 5, true, file(name, uint64(i)+1)))
	}
	slices.Sort(want)
	for _, most := range []int{1, 7, 64, 2000} {
		var got []string
		after := ""
		for range len(want)/most + 1 {
			l, err := List(m, 5, true, after, most)
			ok(t, err)
			if len(l) != min(most, len(want)-len(got)) {
				t.Fatalf("%d entries behind %q", len(l), after)
			}
			for _, e := range l {
				got = append(got, e.Name)
				after = strings.ToUpper(e.Name)
			}
		}
		if !slices.Equal(got, want) {
			t.Fatalf("by %d: other entries", most)
		}
	}
}
