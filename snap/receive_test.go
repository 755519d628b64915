package snap

import (
	"errors"
	"testing"

	"bedrock/api"
	"bedrock/fs"
	"bedrock/tree"
)

// planted makes a tree with a file in a map.
func planted(t *testing.T, name string) func(m *tree.Map) error {
	return func(m *tree.Map) error {
		f := fs.On(m)
		if m.Root() == (api.Ptr{}) {
			var err error
			f, err = fs.Make(m, false)
			ok(t, err)
		}
		file(t, f, name, "text")
		bare(t, f, "bare")
		return nil
	}
}

func origin(t *testing.T, s *Sets, name, snap string) Origin {
	t.Helper()
	o, err := s.Origin(name, snap)
	ok(t, err)
	return o
}

func TestOrigins(t *testing.T) {
	s, disks := begin(t)
	ok(t, s.New("a", false))
	ok(t, s.New("b", false))
	met := map[Origin]int{}
	for _, name := range []string{"a", "b"} {
		for _, snap := range []string{"one", "two"} {
			ok(t, s.Snap(name, snap))
			o := origin(t, s, name, snap)
			if met[o]++; o.Pool != 7 || o.Number == 0 || met[o] > 1 {
				t.Errorf("%v", met)
			}
		}
	}
	one := origin(t, s, "a", "one")
	ok(t, s.Rename("a", "c"))
	ok(t, s.Commit())
	s = reopen(t, disks, single)
	if origin(t, s, "c", "one") != one {
		t.Error("the origin is another one")
	}
	ok(t, s.DropSnap("c", "one"))
	ok(t, s.Snap("c", "one"))
	if o := origin(t, s, "c", "one"); o == one || met[o] > 0 {
		t.Errorf("%v has come again", o)
	}
	for _, x := range [][2]string{{"", "one"}, {"c", "."}} {
		_, err := s.Origin(x[0], x[1])
		is(t, err, api.ErrName)
	}
	for _, x := range [][2]string{{"a", "one"}, {"c", "no"}} {
		o, err := s.Origin(x[0], x[1])
		if is(t, err, api.ErrMissing); o != (Origin{}) {
			t.Errorf("%v, and an error", o)
		}
	}
}

func TestReceive(t *testing.T) {
	s, disks := begin(t)
	first, second := Origin{3, 9}, Origin{1 << 63, 2}
	ok(t, s.Receive("a", "one", Origin{}, first, planted(t, "x")))
	f := treeOf(t, s, "a")
	_, err := at(t, s, "a", "one").Stat(3)
	ok(t, err)
	_, err = f.Stat(3)
	is(t, err, api.ErrNode)
	before := whole(s)
	is(t, s.Receive("a", "two", second, second, planted(t, "y")), api.ErrBase)
	is(t, s.Receive("a", "two", Origin{}, second, planted(t, "y")), api.ErrExists)
	fails := errors.New("fails")
	for _, base := range []Origin{{}, first} {
		name := map[bool]string{true: "new", false: "a"}[base == Origin{}]
		is(t, s.Receive(name, "two", base, second, func(m *tree.Map) error {
			ok(t, m.Put([]byte{200}, []byte("something")))
			return fails
		}), fails)
		same(t, "it fails", whole(s), before)
	}
	is(t, s.Pool().Try(func() error {
		ok(t, s.Receive("new", "two", Origin{}, second, planted(t, "y")))
		ok(t, s.Receive("a", "two", first, second, planted(t, "y")))
		return fails
	}), fails)
	if same(t, "undone", whole(s), before); len(s.trees) != 1 {
		t.Errorf("%d trees are known", len(s.trees))
	}
	ok(t, s.Receive("a", "two", first, second, planted(t, "y")))
	if origin(t, s, "a", "one") != first || origin(t, s, "a", "two") != second || treeOf(t, s, "a") != f {
		t.Error("something is not as it should be")
	}
	if _, err := f.Walk(boss, 1, "y", false); err != nil {
		t.Error(err)
	}
	ok(t, s.Commit())
	before = whole(s)
	s = reopen(t, disks, single)
	if same(t, "opened anew", whole(s), before); origin(t, s, "a", "two") != second {
		t.Error("the origin is another one")
	}
	ok(t, s.Receive("a", "three", second, first, func(m *tree.Map) error { return nil }))
	same(t, "the same again", picture(at(t, s, "a", "three")), picture(at(t, s, "a", "two")))
	is(t, s.Receive("a", "four", second, first, planted(t, "z")), api.ErrBase)
}
