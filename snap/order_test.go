package snap

import (
	"fmt"
	"strings"
	"testing"

	"bedrock/api"
)

// stage makes sets in which all errors can be: a has two snapshots, and something is held in its tree; many has as many snapshots as may be; bare has none; free has one.
func stage(t *testing.T, full bool) *Sets {
	t.Helper()
	s, _ := begin(t)
	for _, name := range []string{"a", "many", "bare", "free"} {
		ok(t, s.New(name, false))
	}
	ok(t, s.Snap("a", "one"))
	ok(t, s.Snap("a", "two"))
	ok(t, s.Snap("free", "one"))
	ok(t, treeOf(t, s, "a").Hold(1))
	for i := range api.MaxSets {
		ok(t, s.Snap("many", fmt.Sprint("snap", i)))
	}
	for i := 4; full && i < api.MaxSets; i++ {
		ok(t, s.New(fmt.Sprint("set", i), false))
	}
	return s
}

var bad = []string{"", ".", "..", "a/b", "a\x00b", strings.Repeat("n", 41)}

// refused: a call answers an error, and nothing else, and changes nothing.
func refused(t *testing.T, s *Sets, what string, want api.Errno, call func() (bool, error)) {
	t.Helper()
	before := fmt.Sprint(s.book.Root(), s.Pool().Use())
	nothing, err := call()
	if api.Tell(err) != want || !nothing {
		t.Errorf("%s: %v, wanted %v (nothing else: %v)", what, err, want, nothing)
	}
	if now := fmt.Sprint(s.book.Root(), s.Pool().Use()); now != before {
		t.Errorf("%s: %s, was %s", what, now, before)
	}
}

// asked are the calls with up to three names, and how many each takes.
func asked(s *Sets) map[string]func(a, b, c string) (bool, error) {
	alone := func(err error) (bool, error) { return true, err }
	return map[string]func(a, b, c string) (bool, error){
		"1 New": func(a, _, _ string) (bool, error) { return alone(s.New(a, true)) },
		"1 Tree": func(a, _, _ string) (bool, error) {
			f, err := s.Tree(a)
			return f == nil, err
		},
		"1 Snaps": func(a, _, _ string) (bool, error) {
			l, err := s.Snaps(a)
			return l == nil, err
		},
		"1 Drop": func(a, _, _ string) (bool, error) { return alone(s.Drop(a)) },
		"2 Snap": func(a, b, _ string) (bool, error) { return alone(s.Snap(a, b)) },
		"2 At": func(a, b, _ string) (bool, error) {
			f, err := s.At(a, b)
			return f == nil, err
		},
		"2 Rollback": func(a, b, _ string) (bool, error) { return alone(s.Rollback(a, b)) },
		"2 Rename":   func(a, b, _ string) (bool, error) { return alone(s.Rename(a, b)) },
		"2 DropSnap": func(a, b, _ string) (bool, error) { return alone(s.DropSnap(a, b)) },
		"3 Clone":    func(a, b, c string) (bool, error) { return alone(s.Clone(a, b, c)) },
	}
}

// A name that is none is told ahead of all else, wherever it stands.
func TestBadNames(t *testing.T) {
	s := stage(t, true)
	others := []string{"a", "many", "bare", "no", "one", "two"}
	for what, call := range asked(s) {
		for i := range int(what[0] - '0') {
			for _, name := range bad {
				for _, other := range others {
					l := [3]string{other, other, other}
					l[i] = name
					refused(t, s, fmt.Sprintf("%s of %q", what, l), api.ErrName, func() (bool, error) { return call(l[0], l[1], l[2]) })
				}
			}
		}
	}
}

func TestOrderOfErrors(t *testing.T) {
	for _, full := range []bool{false, true} {
		s := stage(t, full)
		calls := asked(s)
		for _, x := range []struct {
			what, a, b, c string
			want          api.Errno
			full          api.Errno // where there are as many sets as may be
		}{
			{"1 New", "a", "", "", api.ErrExists, api.ErrExists},
			{"1 New", "new", "", "", api.OK, api.ErrMany},
			{"1 Tree", "no", "", "", api.ErrMissing, api.ErrMissing},
			{"1 Tree", "A", "", "", api.ErrMissing, api.ErrMissing},
			{"1 Snaps", "no", "", "", api.ErrMissing, api.ErrMissing},
			{"1 Drop", "no", "", "", api.ErrMissing, api.ErrMissing},
			{"1 Drop", "a", "", "", api.ErrNotEmpty, api.ErrNotEmpty},
			{"2 Snap", "no", "one", "", api.ErrMissing, api.ErrMissing},
			{"2 Snap", "a", "one", "", api.ErrExists, api.ErrExists},
			{"2 Snap", "many", "snap99", "", api.ErrExists, api.ErrExists},
			{"2 Snap", "many", "new", "", api.ErrMany, api.ErrMany},
			{"2 At", "no", "one", "", api.ErrMissing, api.ErrMissing},
			{"2 At", "a", "no", "", api.ErrMissing, api.ErrMissing},
			{"2 At", "a", "snap1", "", api.ErrMissing, api.ErrMissing},
			{"2 Rollback", "no", "one", "", api.ErrMissing, api.ErrMissing},
			{"2 Rollback", "a", "no", "", api.ErrMissing, api.ErrMissing},
			{"2 Rollback", "a", "one", "", api.ErrBusy, api.ErrBusy},
			{"2 Rename", "no", "a", "", api.ErrMissing, api.ErrMissing},
			{"2 Rename", "no", "new", "", api.ErrMissing, api.ErrMissing},
			{"2 Rename", "a", "bare", "", api.ErrExists, api.ErrExists},
			{"2 Rename", "a", "a", "", api.ErrExists, api.ErrExists},
			{"2 DropSnap", "no", "one", "", api.ErrMissing, api.ErrMissing},
			{"2 DropSnap", "bare", "one", "", api.ErrMissing, api.ErrMissing},
			{"3 Clone", "no", "one", "a", api.ErrMissing, api.ErrMissing},
			{"3 Clone", "a", "no", "a", api.ErrMissing, api.ErrMissing},
			{"3 Clone", "a", "no", "new", api.ErrMissing, api.ErrMissing},
			{"3 Clone", "a", "one", "a", api.ErrExists, api.ErrExists},
			{"3 Clone", "a", "one", "newer", api.OK, api.ErrMany},
		} {
			want := x.want
			if full {
				want = x.full
			}
			if want == api.OK {
				_, err := calls[x.what](x.a, x.b, x.c)
				ok(t, err)
				continue
			}
			what := fmt.Sprintf("%s of %q, %q, %q", x.what, x.a, x.b, x.c)
			refused(t, s, what, want, func() (bool, error) { return calls[x.what](x.a, x.b, x.c) })
		}
	}
}

// As many as may be, and when one is gone, one more.
func TestMany(t *testing.T) {
	s := stage(t, true)
	l, err := s.Names()
	if ok(t, err); len(l) != 100 {
		t.Fatalf("%d sets", len(l))
	}
	is(t, s.New("new", true), api.ErrMany)
	ok(t, s.Drop("bare"))
	ok(t, s.New("new", true))
	is(t, s.Clone("free", "one", "bare"), api.ErrMany)
	ok(t, s.Rename("new", "newer"))
	ok(t, s.Drop("newer"))
	ok(t, s.Clone("free", "one", "bare"))
	is(t, s.New("new", true), api.ErrMany)
	l, err = s.Snaps("many")
	if ok(t, err); len(l) != 100 || l[9] != "snap9" || l[10] != "snap10" || l[99] != "snap99" {
		t.Fatalf("%q", l)
	}
	is(t, s.Snap("many", "new"), api.ErrMany)
	ok(t, s.DropSnap("many", "snap50"))
	ok(t, s.Snap("many", "new"))
	is(t, s.Snap("many", "newer"), api.ErrMany)
	l, err = s.Snaps("many")
	if ok(t, err); len(l) != 100 || l[50] != "snap51" || l[99] != "new" {
		t.Fatalf("%q", l)
	}
	ok(t, s.Snap("free", "another set has room"))
}
