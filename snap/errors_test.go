package snap

import (
	"errors"
	"fmt"
	"slices"
	"testing"

	"bedrock/api"
	"bedrock/fs"
	"bedrock/pool"
)

// call is a call on the sets that wood makes.
type call struct {
	name string
	f    func(s *Sets) (any, error)
}

func plainly(err error) (any, error) { return nil, err }

// seen is what a tree tells, or nothing.
func seen(f *fs.FS, err error) (any, error) {
	if f == nil {
		return nil, err
	}
	return "a tree", err
}

func calls() []call {
	return []call{
		{"Names", func(s *Sets) (any, error) { return listed(s.Names()) }},
		{"Snaps", func(s *Sets) (any, error) { return listed(s.Snaps("a")) }},
		{"Snaps of many", func(s *Sets) (any, error) { return listed(s.Snaps("many")) }},
		{"Tree", func(s *Sets) (any, error) { return seen(s.Tree("a")) }},
		{"Tree of a clone", func(s *Sets) (any, error) { return seen(s.Tree("clone")) }},
		{"At", func(s *Sets) (any, error) { return seen(s.At("a", "one")) }},
		{"At of a clone's", func(s *Sets) (any, error) { return seen(s.At("other", "mine")) }},
		{"New", func(s *Sets) (any, error) { return plainly(s.New("new", true)) }},
		{"Snap", func(s *Sets) (any, error) { return plainly(s.Snap("a", "new")) }},
		{"Snap of a clone", func(s *Sets) (any, error) { return plainly(s.Snap("clone", "new")) }},
		{"Clone", func(s *Sets) (any, error) { return plainly(s.Clone("a", "two", "new")) }},
		{"Rollback", func(s *Sets) (any, error) { return plainly(s.Rollback("a", "one")) }},
		{"Clone of a clone", func(s *Sets) (any, error) { return plainly(s.Clone("other", "mine", "new")) }},
		{"Rollback of a clone that nobody saw", func(s *Sets) (any, error) { return plainly(s.Rollback("other", "mine")) }},
		{"DropSnap of a clone", func(s *Sets) (any, error) { return plainly(s.DropSnap("other", "mine")) }},
		{"Rollback of a clone", func(s *Sets) (any, error) { return plainly(s.Rollback("changed", "mine")) }},
		{"Rename", func(s *Sets) (any, error) { return plainly(s.Rename("a", "new")) }},
		{"DropSnap", func(s *Sets) (any, error) { return plainly(s.DropSnap("a", "one")) }},
		{"Drop", func(s *Sets) (any, error) { return plainly(s.Drop("b")) }},
		{"Drop a clone", func(s *Sets) (any, error) { return plainly(s.Drop("clone")) }},
	}
}

// listed is a list as text, and nothing of none.
func listed(l []string, err error) (any, error) {
	if l == nil {
		return nil, err
	}
	return fmt.Sprintf("%q", l), err
}

// wood makes sets that have many blocks, and commits them.
func wood(t *testing.T, s *Sets) {
	t.Helper()
	for _, name := range []string{"a", "b", "many"} {
		ok(t, s.New(name, true))
	}
	f := treeOf(t, s, "a")
	bare(t, f, "bare")
	grown(t, f, 12, 0)
	ok(t, s.Snap("a", "one"))
	grown(t, treeOf(t, s, "b"), 25, 0)
	file(t, f, "more", "more")
	ok(t, s.Snap("a", "two"))
	file(t, f, "even more", "more")
	ok(t, s.Clone("a", "one", "clone"))
	ok(t, s.Clone("a", "one", "other"))
	ok(t, s.Snap("other", "mine"))
	ok(t, s.Clone("a", "two", "changed"))
	ok(t, s.Snap("changed", "mine"))
	file(t, treeOf(t, s, "changed"), "changed", "mine")
	for i := range 12 {
		ok(t, s.Snap("many", fmt.Sprint("a snapshot that has a long name ", i)))
		ok(t, s.New(fmt.Sprint("a set that has a long name ", i), false))
	}
	ok(t, s.Commit())
}

// state is the book's root, and what is in use.
func state(s *Sets) string {
	return fmt.Sprint(s.book.Root(), s.Pool().Use())
}

// short is what sets there are, and what is in use.
func short(s *Sets) string {
	l, err := s.Names()
	out := fmt.Sprint(l, err, s.Pool().Use())
	for _, name := range l {
		out += fmt.Sprint(s.Snaps(name))
	}
	return out
}

// outcome is what a call tells, and how it looks behind it (without an error), when mend was called; it is undone then.
func outcome(t *testing.T, s *Sets, c call, mend func(), look func(s *Sets) string) (any, string, error) {
	t.Helper()
	var got any
	var after string
	var told error
	before := state(s)
	s.Pool().Try(func() error {
		got, told = c.f(s)
		if told != nil && state(s) != before {
			t.Errorf("%s changed something, and answered %v", c.name, told)
		}
		if mend(); told == nil {
			after = look(s)
		}
		return api.ErrArg
	})
	return got, after, told
}

// However much is spoilt: a call answers what it should, or that it is spoilt, and changes nothing then.
func TestSpoilt(t *testing.T) {
	t.Parallel()
	p, l := made(t, single, 20000)
	s, err := Make(p)
	ok(t, err)
	wood(t, s)
	before := whole(s)
	s = reopen(t, l, single)
	blocks := blocksOf(s)
	met := map[string]int{}
	for _, c := range calls() {
		want, all, err := outcome(t, s, c, func() {}, whole)
		ok(t, err)
		_, little, _ := outcome(t, s, c, func() {}, short)
		for i, x := range blocks {
			turn := func() { l[0].Spoil(x.At, 300, 1) }
			clear(s.trees) // so that they are read again
			turn()
			left, look := little, short
			if i%9 == len(c.name)%9 {
				left, look = all, whole
			}
			got, after, err := outcome(t, s, c, turn, look)
			switch {
			case errors.Is(err, api.ErrSpoilt):
				met[c.name]++
				if got != nil {
					t.Errorf("%s with block %d spoilt: %v, and an error", c.name, i, got)
				}
			case err != nil || got != want || after != left:
				t.Errorf("%s with block %d spoilt: %v, %v", c.name, i, got, err)
			}
		}
		if met[c.name] == 0 {
			t.Errorf("%s reads nothing", c.name)
		}
	}
	same(t, "all", whole(s), before)
	ok(t, s.Commit())
	commitSpoilt(t, s, l[0])
}

// blocksOf is where all blocks are.
func blocksOf(s *Sets) []api.Ptr {
	var l []api.Ptr
	for x := range s.Pool().Blocks() {
		l = append(l, x)
	}
	return l
}

// commitSpoilt: a commit that cannot read what it needs commits nothing.
func commitSpoilt(t *testing.T, s *Sets, d *api.Disk) {
	t.Helper()
	blocks := blocksOf(s)
	file(t, treeOf(t, s, "a"), "new", "new")
	met := 0
	for _, x := range blocks {
		if s.Pool().Uses(x) == 0 {
			continue // its rows may be another one's by now
		}
		d.Spoil(x.At, 300, 1)
		before, root := state(s), string(s.Pool().Root())
		err := s.Commit()
		d.Spoil(x.At, 300, 1)
		if err == nil {
			file(t, treeOf(t, s, "a"), fmt.Sprint("new", met, x.At), "new")
			continue
		}
		is(t, err, api.ErrSpoilt)
		if state(s) != before || string(s.Pool().Root()) != root {
			t.Error("a commit with an error changed something")
		}
		met++
	}
	if met == 0 {
		t.Error("a commit reads nothing")
	}
}

// Disks that fail: an error is told, and from then on that the pool is down.
func TestDown(t *testing.T) {
	p, l := made(t, single, 20000)
	s, err := Make(p)
	ok(t, err)
	wood(t, s)
	commit := call{"Commit", func(s *Sets) (any, error) {
		return plainly(s.Commit())
	}}
	for _, c := range append(calls(), commit) {
		for k := 0; ; k++ {
			d := l[0].Copy()
			s := reopen(t, []*api.Disk{d}, single)
			d.Fail(k, 1<<30)
			got, err := c.f(s)
			if err == nil {
				if k == 0 {
					t.Errorf("%s asks the disk nothing", c.name)
				}
				break
			}
			if is(t, err, api.ErrDevice); got != nil {
				t.Errorf("%s answers %v with an error", c.name, got)
			}
			d.Fail(0, 0)
			for _, c := range append(calls(), commit) {
				got, err := c.f(s)
				if is(t, err, api.ErrDown); got != nil {
					t.Errorf("%s answers %v with an error", c.name, got)
				}
			}
		}
	}
}

// However little room there is: a call answers that there is none, and changes nothing then, or all is well.
func TestRoom(t *testing.T) {
	done := 0
	for size := 100; done < 3; size += 1 + size/80 {
		p, l := made(t, single, size)
		s, err := Make(p)
		ok(t, err)
		if !squeezed(t, s) {
			continue
		}
		done++
		before := whole(s)
		s = reopen(t, l, single)
		same(t, "opened anew", whole(s), before)
	}
}

// squeezed goes on as long as there is room, and tells whether there was.
func squeezed(t *testing.T, s *Sets) bool {
	t.Helper()
	write := func(name string) func() error {
		return func() error {
			f, err := s.Tree(name)
			if err != nil {
				return err
			}
			n, err := f.Create(boss, 1, "x", api.New{Kind: api.File})
			if err != nil {
				return err
			}
			return f.Write(boss, n, 0, []byte(name))
		}
	}
	hold := func() error { return treeOf(t, s, "b").Hold(2) }
	remove := func() error { return treeOf(t, s, "b").Remove(boss, 1, "x") }
	for i, f := range []func() error{
		func() error { return s.New("a", true) },
		func() error { return s.New("b", true) },
		write("a"), write("b"), hold, remove,
		func() error { return s.Snap("b", "one") },
		func() error { return s.Clone("b", "one", "c") },
		s.Commit,
		func() error { return treeOf(t, s, "b").Release(2) },
		func() error { _, err := s.Tree("c"); return err },
		write("c"), write("b"),
		func() error { return s.Snap("c", "two") },
		func() error { return s.Rollback("b", "one") },
		func() error { return s.Rename("b", "a longer name than it had") },
		s.Commit,
		func() error { return s.Clone("c", "two", "d") },
		func() error { return s.DropSnap("c", "two") },
		func() error { return s.Drop("c") },
		s.Commit,
	} {
		before := state(s)
		err := f()
		if err == nil {
			continue
		}
		if is(t, err, api.ErrRoom); state(s) != before {
			t.Errorf("call %d changed something, and answered %v", i, err)
		}
		return false
	}
	return true
}

// However few rows are free: each call answers that there is no room, and changes nothing then, or does what it should.
func TestFewRows(t *testing.T) {
	t.Parallel()
	p, l := made(t, single, 600)
	s, err := Make(p)
	ok(t, err)
	wood(t, s)
	commit := call{"Commit", func(s *Sets) (any, error) { return plainly(s.Commit()) }}
	for _, c := range append(calls(), commit) {
		begin := func() (*Sets, []*api.Disk) {
			l := []*api.Disk{l[0].Copy()}
			s := reopen(t, l, single)
			if c.name == "Commit" {
				file(t, treeOf(t, s, "b"), "new", "new")
			}
			return s, l
		}
		s, _ := begin()
		before, met := whole(s), 0
		s, _ = begin()
		_, err := c.f(s)
		ok(t, err)
		after := whole(s)
		for free := 0; free < 70 && (met > 0 || free < 10); free += 1 + free/6 {
			s, l := begin()
			filled := fill(t, s.Pool(), free)
			was, root, want := state(s), string(s.Pool().Root()), after
			if _, err := c.f(s); err != nil {
				met++
				want = before
				if is(t, err, api.ErrRoom); state(s) != was || string(s.Pool().Root()) != root {
					t.Fatalf("%s with %d rows free changed something", c.name, free)
				}
			} else if c.name == "Commit" {
				s = reopen(t, l, single)
			}
			for _, x := range filled {
				ok(t, s.Pool().Drop(x))
			}
			same(t, c.name, whole(s), want)
		}
		if slices.Contains([]string{"New", "Snap", "Clone", "Rename", "Rollback", "DropSnap", "Tree of a clone", "At of a clone's", "Commit"}, c.name) && met == 0 {
			t.Errorf("%s needs no room", c.name)
		}
	}
}

// fill lets a pool have no rows left in which something could be put, but for so many.
func fill(t *testing.T, p *pool.Pool, free int) []api.Ptr {
	t.Helper()
	var l []api.Ptr
	for {
		x, err := p.Put([]byte("full"))
		if err != nil {
			is(t, err, api.ErrRoom)
			break
		}
		l = append(l, x)
	}
	left := len(l) - free
	for _, x := range l[left:] {
		ok(t, p.Drop(x))
	}
	return l[:left]
}

// A block may be in use only so often.
func TestManyUses(t *testing.T) {
	s, _ := begin(t)
	ok(t, s.New("a", false))
	ok(t, s.New("b", false))
	file(t, treeOf(t, s, "a"), "x", "x")
	ok(t, s.Snap("a", "one"))
	x := treeOf(t, s, "a").Map().Root()
	for s.Pool().Share(x) == nil {
	}
	before := state(s)
	is(t, s.Snap("a", "two"), api.ErrMany)
	is(t, s.Clone("a", "one", "c"), api.ErrMany)
	is(t, s.Rollback("a", "one"), api.ErrMany)
	if names(t, s, "a", "b"); state(s) != before {
		t.Error("something is other")
	}
}

// Calls in a Try that is undone are undone, and a set has the same FS as before.
func TestUndone(t *testing.T) {
	s, l := begin(t)
	wood(t, s)
	for range 2 {
		before, f := whole(s), treeOf(t, s, "b")
		for _, c := range calls() {
			is(t, s.Pool().Try(func() error {
				_, err := c.f(s)
				ok(t, err)
				if c.name == "New" || c.name == "Clone" {
					treeOf(t, s, "new")
				}
				is(t, s.Commit(), api.ErrOrder)
				return api.ErrQuota
			}), api.ErrQuota)
			same(t, c.name, whole(s), before)
			if treeOf(t, s, "b") != f {
				t.Errorf("%s: the tree is another one", c.name)
			}
		}
		if l, _ := s.Names(); len(s.trees) != len(l) {
			t.Errorf("%d trees of %d sets are known", len(s.trees), len(l))
		}
		s = reopen(t, l, single)
	}
}

// A Try may have all of it, with a panic at its end.
func TestPanic(t *testing.T) {
	s, _ := begin(t)
	wood(t, s)
	before, root := whole(s), s.book.Root()
	func() {
		defer func() { recover() }()
		s.Pool().Try(func() error {
			for _, c := range calls() {
				c.f(s)
			}
			panic("enough")
		})
	}()
	if same(t, "all", whole(s), before); s.book.Root() != root {
		t.Error("the book is another one")
	}
}

// Values in the book that no call of these put there are told as spoilt.
func TestJunk(t *testing.T) {
	for _, b := range [][]byte{nil, {1}, make([]byte, 13), make([]byte, 22), make([]byte, 24), make([]byte, 400)} {
		s, _ := begin(t)
		wood(t, s)
		ok(t, s.book.Put(setKey("a"), b))
		for _, c := range calls() {
			_, err := c.f(s)
			switch api.Tell(err) {
			case api.OK, api.ErrSpoilt, api.ErrNotEmpty:
			default:
				t.Errorf("%s: %v", c.name, err)
			}
		}
		_, err := s.Tree("a")
		is(t, err, api.ErrSpoilt)
		_, err = s.Names()
		is(t, err, api.ErrSpoilt)
		is(t, s.New("newer", false), api.ErrSpoilt)
		is(t, s.Rename("many", "a"), api.ErrSpoilt)
		is(t, s.Commit(), api.ErrSpoilt)
	}
	s, _ := begin(t)
	wood(t, s)
	x, err := s.set("a")
	ok(t, err)
	for i, k := range [][]byte{shotKey(x.number, 0), append(shotKey(x.number, 0), 1, 1), append(shotKey(x.number, 0), 99)} {
		ok(t, s.book.Put(k, make([]byte, 13+i)))
		_, err = s.Snaps("a")
		is(t, err, api.ErrSpoilt)
		is(t, s.Snap("a", "new"), api.ErrSpoilt)
		is(t, s.Drop("a"), api.ErrSpoilt)
		is(t, s.DropSnap("a", "one"), api.ErrSpoilt)
		ok(t, s.book.Del(k))
	}
	for _, k := range [][]byte{key(num(setPart)), append(setKey("a"), 99), append(setKey("a"), 1, 1)} {
		ok(t, s.book.Put(k, make([]byte, setSize)))
		_, err = s.Names()
		is(t, err, api.ErrSpoilt)
		ok(t, s.book.Del(k))
	}
}

// A pool whose last commit is another one's.
func TestForeignCommit(t *testing.T) {
	s, l := begin(t)
	wood(t, s)
	ok(t, s.Pool().Commit([]byte("other")))
	p, err := pool.Open(l, single)
	ok(t, err)
	_, err = Open(p)
	is(t, err, api.ErrForm)
	s, l = begin(t)
	wood(t, s)
	before := whole(s)
	ok(t, s.Pool().Commit([]byte("other")))
	ok(t, s.Commit())
	same(t, "opened anew", whole(reopen(t, l, single)), before)
}
