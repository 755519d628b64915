package dir

import (
	"errors"
	"fmt"
	"math/rand"
	"slices"
	"strings"
	"testing"

	"bedrock/api"
	"bedrock/tree"
)

var errUndo = errors.New("undo")

// call is a call on the directories that sample made.
type call struct {
	name string
	f    func(m *tree.Map) (any, error)
}

func plainly(err error) (any, error) { return nil, err }

func calls() []call {
	return []call{
		{"Look", func(m *tree.Map) (any, error) { return Look(m, 2, true, "NAME 17") }},
		{"Enter", func(m *tree.Map) (any, error) { return plainly(Enter(m, 2, true, file("Name 17b", 7))) }},
		{"Enter elsewhere", func(m *tree.Map) (any, error) { return plainly(Enter(m, 9, false, file("a", 7))) }},
		{"Leave", func(m *tree.Map) (any, error) { return plainly(Leave(m, 2, true, "nAME 30")) }},
		{"List", func(m *tree.Map) (any, error) { return List(m, 2, true, "", 1000) }},
		{"List a few", func(m *tree.Map) (any, error) { return List(m, 2, true, "name 2", 3) }},
		{"List the others", func(m *tree.Map) (any, error) { return List(m, 1, false, "", 1000) }},
	}
}

// sample fills two directories.
func sample(t *testing.T, m *tree.Map) {
	t.Helper()
	for i := range 60 {
		ok(t, Enter(m, 2, true, file(fmt.Sprint("Name ", i), uint64(i)+1)))
		ok(t, Enter(m, 1, false, file(fmt.Sprint("Other ", i), uint64(i)+1)))
	}
}

// seen is all that both directories tell.
func seen(m *tree.Map) string {
	a, err1 := List(m, 1, false, "", 1000)
	b, err2 := List(m, 2, true, "", 1000)
	return fmt.Sprint(a, err1, b, err2)
}

// nothing tells whether an answer is what may come with an error.
func nothing(got any) bool {
	switch v := got.(type) {
	case api.Entry:
		return v == api.Entry{}
	case []api.Entry:
		return v == nil
	}
	return got == nil
}

// state is the map's root, and what is in use.
func state(m *tree.Map) string { return fmt.Sprint(m.Root(), m.Pool().Use()) }

// outcome is what a call tells, and what it leaves; it is undone then.
func outcome(t *testing.T, m *tree.Map, c call) (any, string, error) {
	t.Helper()
	var got any
	var after string
	var err error
	before := state(m)
	is(t, m.Try(func() error {
		got, err = c.f(m)
		switch {
		case err == nil:
			after = seen(m)
		case state(m) != before:
			t.Fatalf("%s: with an error something was changed", c.name)
		case !nothing(got):
			t.Fatalf("%s: with an error %v", c.name, got)
		}
		return errUndo
	}), errUndo)
	if state(m) != before {
		t.Fatalf("%s was not undone", c.name)
	}
	return got, after, err
}

// TestSpoilt: each block is spoilt in turn: each call answers what it should, or that something is spoilt, and then nothing is changed.
func TestSpoilt(t *testing.T) {
	p, l := made(t, shapes[0], 20000)
	m := tree.New(p)
	sample(t, m)
	ok(t, p.Commit(nil))
	want := map[string][2]string{}
	for _, c := range calls() {
		got, after, err := outcome(t, m, c)
		ok(t, err)
		want[c.name] = [2]string{fmt.Sprint(got), after}
	}
	good, bad := 0, 0
	for b := range p.Blocks() {
		l[0].Spoil(b.At, 333, 1)
		for _, c := range calls() {
			got, after, err := outcome(t, m, c)
			if err != nil {
				bad++
				is(t, err, api.ErrSpoilt)
			} else if good++; fmt.Sprint(got) != want[c.name][0] {
				t.Fatalf("%s tells %v, wanted %v", c.name, got, want[c.name][0])
			} else if after != want[c.name][1] && !strings.Contains(after, api.ErrSpoilt.Error()) {
				t.Fatalf("%s leaves something else", c.name)
			}
		}
		l[0].Spoil(b.At, 333, 1)
	}
	if good < 10 || bad < 10 {
		t.Fatalf("%d calls went well, %d did not", good, bad)
	}
}

// TestDown: when a disk fails nothing is told but that.
func TestDown(t *testing.T) {
	for _, c := range calls() {
		p, l := made(t, shapes[0], 20000)
		m := tree.New(p)
		sample(t, m)
		ok(t, p.Commit(nil))
		l[0].Fail(0, 1)
		got, err := c.f(m)
		if is(t, err, api.ErrDevice); !nothing(got) {
			t.Fatalf("%s: with an error %v", c.name, got)
		}
		for _, c := range calls() {
			_, err := c.f(m)
			is(t, err, api.ErrDown)
		}
		is(t, Enter(m, 2, true, file("..", 0)), api.ErrName)
		is(t, Enter(m, 2, true, file("a", 0)), api.ErrDown) // 10.3's errors are ahead of 10.4's
	}
}

// TestRoom: where there is no room nothing is changed.
func TestRoom(t *testing.T) {
	p, _ := made(t, shapes[0], 400)
	m := tree.New(p)
	sample(t, m)
	ok(t, p.Commit(nil))
	want := seen(m)
	var filler []api.Ptr
	for {
		b, err := p.Put(make([]byte, 100))
		if err != nil {
			is(t, err, api.ErrRoom)
			break
		}
		filler = append(filler, b)
	}
	full, went := 0, 0
	for _, b := range filler {
		for _, c := range calls() {
			if _, _, err := outcome(t, m, c); err != nil {
				is(t, err, api.ErrRoom)
				full++
			} else {
				went++
			}
		}
		if seen(m) != want {
			t.Fatal("something was changed")
		}
		ok(t, p.Drop(b))
	}
	if full < 5 || went < 5 {
		t.Fatalf("%d calls had no room, %d had", full, went)
	}
}

// TestJunk: keys and values that are no entries' are passed over, or told to be spoilt.
func TestJunk(t *testing.T) {
	m := begun(t)
	ok(t, Enter(m, 1, true, file("Name", 5)))
	for _, k := range [][]byte{keyOf(t, 10), keyOf(t, 10, 1), keyOf(t, 10, 1, 5), keyOf(t, 10, 1, "name", 5), keyOf(t, 10, 1, "name", "a"), keyOf(t, 10, "name"), keyOf(t, 10, 1, ""), append(keyOf(t, 10, 1, "name"), 77)} {
		ok(t, m.Put(k, nil))
	}
	lists(t, m, 1, true, "", 9, "Name")
	looks(t, m, 1, true, "naME", file("Name", 5))
	good, err := m.Get(keyOf(t, 10, 1, "name"))
	ok(t, err)
	for _, val := range [][]byte{nil, good[:7], make([]byte, 8), {1, 0, 0, 0, 0, 0, 0, 0}, {4, 0, 0, 0, 0, 0, 0, 0}, append(slices.Clone(good), "/"...), append(slices.Clone(good), strings.Repeat("n", 100)...)} {
		ok(t, m.Put(keyOf(t, 10, 1, "junk"), val))
		e, err := Look(m, 1, true, "junk")
		if is(t, err, api.ErrSpoilt); !nothing(e) {
			t.Errorf("with an error %v", e)
		}
		l, err := List(m, 1, true, "", 9)
		if is(t, err, api.ErrSpoilt); l != nil {
			t.Errorf("with an error %v", l)
		}
		lists(t, m, 1, true, "junk", 9, "Name")
		is(t, Enter(m, 1, true, file("junk", 1)), api.ErrExists)
		ok(t, Leave(m, 1, true, "junk"))
	}
}

// TestOtherFold: nothing is promised of a directory that is asked with another fold; but each call ends, and tells a good entry or an error.
func TestOtherFold(t *testing.T) {
	m := begun(t)
	r := rand.New(rand.NewSource(3))
	for range 3000 {
		d, fold := uint64(r.Intn(2)), r.Intn(2) == 0
		name := []string{"a", "A", "ab", "aB", "AB", "Ab", "ä", "Ä"}[r.Intn(8)]
		_ = Enter(m, d, fold, file(name, 1))
		if r.Intn(2) == 0 {
			_ = Leave(m, d, fold, name)
		}
		if e, err := Look(m, d, fold, name); (err == nil) != (Good(e.Name) && stands(e)) {
			t.Fatalf("%v, %v", e, err)
		}
		l, err := List(m, d, fold, name, 100)
		ok(t, err)
		for _, e := range l {
			if !Good(e.Name) || !stands(e) {
				t.Fatalf("%v is told", e)
			}
		}
	}
}
