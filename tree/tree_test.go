package tree

import (
	"bytes"
	"errors"
	"fmt"
	"math/rand"
	"slices"
	"strings"
	"testing"

	"bedrock/api"
	"bedrock/pool"
)

var (
	single = api.Shape{Data: 1}
	shapes = []api.Shape{single, {Data: 1, Level: 1}, {Data: 2, Level: 1}, {Data: 6, Level: 2}}
)

func ok(t *testing.T, err error) {
	t.Helper()
	if err != nil {
		t.Fatal(err)
	}
}

func is(t *testing.T, err, want error) {
	t.Helper()
	if !errors.Is(err, want) {
		t.Fatalf("%v, wanted %v", err, want)
	}
}

func made(t *testing.T, shape api.Shape, size int) (*pool.Pool, []*api.Disk) {
	t.Helper()
	var l []*api.Disk
	for range shape.Data + shape.Level {
		l = append(l, api.NewDisk(size))
	}
	p, err := pool.Format(l, shape, 7)
	ok(t, err)
	return p, l
}

func begun(t *testing.T) (*pool.Pool, *Map) {
	t.Helper()
	p, _ := made(t, single, 40000)
	return p, New(p)
}

func put(t *testing.T, m *Map, key, val string) {
	t.Helper()
	ok(t, m.Put([]byte(key), []byte(val)))
}

func snapped(t *testing.T, m *Map) *Map {
	t.Helper()
	s, err := m.Snap()
	ok(t, err)
	return s
}

func block(t *testing.T, p *pool.Pool, b string) api.Ptr {
	t.Helper()
	x, err := p.Put([]byte(b))
	ok(t, err)
	return x
}

// many is a map of n pairs, of some bytes each.
func many(t *testing.T, p *pool.Pool, n, size int) *Map {
	t.Helper()
	m := New(p)
	for i := range n {
		put(t, m, name(i*7919%n), strings.Repeat("v", size))
	}
	return m
}

func name(i int) string { return fmt.Sprintf("key %06d", i) }

// list is all that a Scan tells, and its error.
func list(m *Map, from, to string) ([]string, error) {
	var l []string
	for p, err := range m.Scan([]byte(from), []byte(to)) {
		if err != nil {
			return l, err
		}
		l = append(l, told(p.Key, p.Val, p.Block))
	}
	return l, nil
}

func told(key, val []byte, x api.Ptr) string {
	if x == (api.Ptr{}) {
		return string(key) + "=" + string(val)
	}
	return fmt.Sprintf("%s=%s %d.%d", key, val, x.At, x.Stamp)
}

func tells(t *testing.T, m *Map, want ...string) {
	t.Helper()
	ranges(t, m, "", "", want...)
}

func ranges(t *testing.T, m *Map, from, to string, want ...string) {
	t.Helper()
	got, err := list(m, from, to)
	ok(t, err)
	if !slices.Equal(got, want) {
		t.Fatalf("%q to %q: %.200q, wanted %.200q", from, to, got, want)
	}
}

// differ is what Diff tells, and its error.
func differ(a, b *Map) ([]string, error) {
	var l []string
	for c, err := range Diff(a, b) {
		if err != nil {
			return l, err
		}
		l = append(l, fmt.Sprintf("%s:%s>%s %v %v", c.Key, c.Old, c.New, c.Had, c.Has))
	}
	return l, nil
}

func differs(t *testing.T, a, b *Map, want ...string) {
	t.Helper()
	got, err := differ(a, b)
	ok(t, err)
	if !slices.Equal(got, want) {
		t.Fatalf("%.300q, wanted %.300q", got, want)
	}
}

func used(t *testing.T, p *pool.Pool, rows int) {
	t.Helper()
	if n := p.Use().Used; n != rows {
		t.Fatalf("%d rows are in use, wanted %d", n, rows)
	}
}

// audit looks whether all maps of a pool are as they should be, and each block is in use as often as they and the caller need it.
func audit(t *testing.T, p *pool.Pool, mine map[api.Ptr]int, maps ...*Map) {
	t.Helper()
	uses := map[api.Ptr]int{}
	for x, n := range mine {
		uses[x] = n
	}
	for _, m := range maps {
		if m.root != (api.Ptr{}) {
			auditNode(t, m, m.root, anyHeight, nil, nil, uses)
		}
	}
	for x, n := range p.Blocks() {
		if uses[x] != n {
			t.Fatalf("%+v is in use %d times, wanted %d", x, n, uses[x])
		}
		delete(uses, x)
	}
	for x, n := range uses {
		if n > 0 {
			t.Fatalf("%+v is not in use, wanted %d times", x, n)
		}
	}
}

func auditNode(t *testing.T, m *Map, x api.Ptr, height int, low, high []byte, uses map[api.Ptr]int) {
	t.Helper()
	uses[x]++
	n, err := m.read(x, height)
	ok(t, err)
	if len(n.bytes()) != x.Len || !n.whole(m.room(n.above())) || x.Len == headSize {
		t.Fatalf("a node of %d bytes, of which %d count, in a block of %d", len(n.bytes()), n.size(), x.Len)
	}
	within := func(key []byte) {
		if bytes.Compare(key, low) < 0 || len(high) > 0 && bytes.Compare(key, high) >= 0 {
			t.Fatalf("%q is not from %q to %q", key, low, high)
		}
	}
	first := uses[x] == 1 // what it leads to has one use by it, however often it is in use itself
	switch n := n.(type) {
	case leaf:
		for i, q := range n {
			if within(q.Key); i > 0 && bytes.Compare(n[i-1].Key, q.Key) >= 0 {
				t.Fatalf("%q ahead of %q", n[i-1].Key, q.Key)
			}
			if first && q.Block != (api.Ptr{}) {
				uses[q.Block]++
			}
		}
	case branch:
		if len(n.kids) == 1 && height == anyHeight || len(n.kids[0].low) > 0 {
			t.Fatalf("a branch of %d kids, the first one from %q on", len(n.kids), n.kids[0].low)
		}
		for i, k := range n.kids {
			from, to := low, high
			if i > 0 {
				within(k.low)
				from = k.low
			}
			if i+1 < len(n.kids) {
				to = n.kids[i+1].low
			}
			if first {
				auditNode(t, m, k.to, n.height-1, from, to, uses)
			}
		}
	}
}

func TestNoPairs(t *testing.T) {
	p, m := begun(t)
	if m.Pool() != p || m.Root() != (api.Ptr{}) {
		t.Fatal("a new map is none")
	}
	look := func(m *Map) {
		t.Helper()
		tells(t, m)
		_, err := m.Get([]byte("a"))
		is(t, err, api.ErrMissing)
		_, err = m.Tied([]byte("a"))
		is(t, err, api.ErrMissing)
		is(t, m.Del([]byte("a")), api.ErrMissing)
		ok(t, m.Free())
		used(t, p, 0)
	}
	look(m)
	look(Load(p, api.Ptr{}))
	s := snapped(t, m)
	look(s)
	put(t, s, "a", "1")
	tells(t, m)
	tells(t, s, "a=1")
	differs(t, m, m)
	differs(t, m, s, "a:>1 false true")
	differs(t, s, m, "a:1> true false")
}

func TestPairs(t *testing.T) {
	p, m := begun(t)
	put(t, m, "b", "2")
	put(t, m, "a", "1")
	put(t, m, "ab", "")
	put(t, m, "b", "22")
	put(t, m, "\x00", "zero")
	put(t, m, "\xff\xff", "high")
	tells(t, m, "\x00=zero", "a=1", "ab=", "b=22", "\xff\xff=high")
	for key, want := range map[string]string{"a": "1", "ab": "", "b": "22", "\x00": "zero", "\xff\xff": "high"} {
		v, err := m.Get([]byte(key))
		if ok(t, err); string(v) != want {
			t.Errorf("%q: %q, wanted %q", key, v, want)
		}
		x, err := m.Tied([]byte(key))
		if ok(t, err); x != (api.Ptr{}) {
			t.Errorf("%q: %+v", key, x)
		}
	}
	for _, key := range []string{"\x00\x00", "A", "aa", "abc", "c", "\xff", "\xff\xff\xff"} {
		_, err := m.Get([]byte(key))
		is(t, err, api.ErrMissing)
		_, err = m.Tied([]byte(key))
		is(t, err, api.ErrMissing)
		is(t, m.Del([]byte(key)), api.ErrMissing)
	}
	audit(t, p, nil, m)
	ok(t, m.Del([]byte("ab")))
	tells(t, m, "\x00=zero", "a=1", "b=22", "\xff\xff=high")
	is(t, m.Del([]byte("ab")), api.ErrMissing)
	for _, key := range []string{"\xff\xff", "\x00", "b", "a"} {
		ok(t, m.Del([]byte(key)))
	}
	if m.Root() != (api.Ptr{}) {
		t.Error("a root without pairs")
	}
	used(t, p, 0)
}

func TestRefused(t *testing.T) {
	p, m := begun(t)
	put(t, m, "k", "v")
	root, use := m.Root(), p.Use()
	x := block(t, p, "x")
	rows := p.Use().Used
	long, wide := make([]byte, api.MaxKey+1), make([]byte, api.MaxVal+1)
	for _, c := range []struct {
		key  []byte
		want error
	}{{nil, api.ErrArg}, {[]byte{}, api.ErrArg}, {long, api.ErrLong}, {make([]byte, 5000), api.ErrLong}} {
		v, err := m.Get(c.key)
		if is(t, err, c.want); v != nil {
			t.Error("a value with an error")
		}
		_, err = m.Tied(c.key)
		is(t, err, c.want)
		is(t, m.Put(c.key, nil), c.want)
		is(t, m.Put(c.key, wide), c.want)
		is(t, m.Del(c.key), c.want)
		is(t, m.Tie(c.key, nil, x), c.want)
		is(t, m.Tie(c.key, wide, api.Ptr{}), c.want)
	}
	is(t, m.Put([]byte("k"), wide), api.ErrLong)
	is(t, m.Tie([]byte("k"), wide, api.Ptr{}), api.ErrLong)
	is(t, m.Put([]byte("new"), make([]byte, 1<<16)), api.ErrLong)
	used(t, p, rows)
	if m.Root() != root || p.Uses(x) != 1 {
		t.Error("what was refused was done")
	}
	ok(t, p.Drop(x))
	if p.Use() != use {
		t.Errorf("%+v, wanted %+v", p.Use(), use)
	}
	tells(t, m, "k=v")
}

// TestLongest: keys and values as long as they may be, of which a node has few, or one alone.
func TestLongest(t *testing.T) {
	p, m := begun(t)
	r := rand.New(rand.NewSource(1))
	want := map[string]string{}
	mine := map[api.Ptr]int{}
	for i := range 300 {
		key := strings.Repeat("k", api.MaxKey-4) + fmt.Sprintf("%04d", r.Intn(5000))
		val := strings.Repeat(string(rune('a'+i%26)), api.MaxVal-r.Intn(2)*r.Intn(400))
		ok(t, m.Tie([]byte(key), []byte(val), block(t, p, "x")))
		x, err := m.Tied([]byte(key))
		ok(t, err)
		want[key] = told([]byte(key), []byte(val), x)
		if i%20 == 0 {
			audit(t, p, mine, m)
		}
	}
	var l []string
	for _, s := range want {
		l = append(l, s)
	}
	slices.Sort(l)
	tells(t, m, l...)
	for _, i := range r.Perm(len(l)) {
		ok(t, m.Del([]byte(l[i][:api.MaxKey])))
		audit(t, p, mine, m)
	}
	used(t, p, 0)
}

// TestTall: branches have few kids, since what parts these is long, so the map is many nodes high. Pairs are taken away from one end, from the other one, from the midst, at random: the nodes that are left are joined, at all heights.
func TestTall(t *testing.T) {
	const n = 200
	for size := range 3 {
		r := rand.New(rand.NewSource(int64(size)))
		var up, down, midst []int
		for i := range n {
			up = append(up, i)
			down = append(down, n-1-i)
			midst = append(midst, (i+n/2)%n)
		}
		for _, order := range [][]int{up, down, midst, r.Perm(n), r.Perm(n)} {
			tallOrder(t, r, order, []int{1, 200, api.MaxVal}[size])
		}
	}
}

// tallOrder deletes the pairs of a map, whose values have up to so many bytes, in that order.
func tallOrder(t *testing.T, r *rand.Rand, order []int, size int) {
	t.Helper()
	p, m := begun(t)
	key := func(i int) []byte { return []byte(strings.Repeat("k", api.MaxKey-4) + fmt.Sprintf("%04d", i)) }
	for _, i := range r.Perm(len(order)) {
		ok(t, m.Put(key(i), make([]byte, r.Intn(size)+1)))
	}
	top, err := m.read(m.root, anyHeight)
	if ok(t, err); top.above() < 2 {
		t.Fatalf("it has a height of %d alone", top.above())
	}
	left, err := list(m, "", "")
	ok(t, err)
	s := snapped(t, m)
	all := slices.Clone(left)
	for _, i := range order {
		ok(t, m.Del(key(i)))
		left = slices.DeleteFunc(left, func(s string) bool { return s == all[i] })
		tells(t, m, left...)
		audit(t, p, nil, m, s)
		mine := map[api.Ptr]int{}
		if len(left) > 0 {
			auditNode(t, m, m.root, anyHeight, nil, nil, mine)
		}
		if len(mine) > 2*len(left)-len(left)/3 {
			t.Fatalf("%d pairs in %d blocks", len(left), len(mine))
		}
	}
	tells(t, s, all...)
	ok(t, s.Free())
	used(t, p, 0)
}

// TestJoin: two leaves become one as soon as they have room in one, from whichever of both pairs are taken away.
func TestJoin(t *testing.T) {
	for _, up := range []bool{false, true} {
		p, m := begun(t)
		n, first := 0, 0
		for ; len(state(p)) < 3; n++ {
			put(t, m, name(n), strings.Repeat("v", 30))
		}
		each := pair{Key: []byte(name(0)), Val: make([]byte, 30)}.size(pair{})
		for ; headSize+(n-first)*each > m.joinRoom(0)-headSize; n-- {
			i := n - 1
			if up {
				i = first
				first, n = first+1, n+1
			}
			if len(state(p)) != 3 {
				t.Fatal("it is one too soon")
			}
			ok(t, m.Del([]byte(name(i))))
		}
		if audit(t, p, nil, m); len(state(p)) != 1 {
			t.Errorf("%d pairs are in %d blocks", n-first, len(state(p)))
		}
	}
}

// TestJoinBranches: where two branches are joined, what meets there is joined, too, if it has room in one block.
func TestJoinBranches(t *testing.T) {
	p, m := begun(t)
	wide := strings.Repeat("v", m.room(0)-20)
	laid := func(height int, pairs ...string) kid {
		n := leaf{}
		for _, k := range pairs {
			n = append(n, pair{Key: []byte(k[:1]), Val: []byte(k[1:])})
		}
		l, err := m.lay(n, []byte(pairs[0][:1]))
		ok(t, err)
		for h := 1; h < height; h++ {
			l, err = m.lay(branch{h, l}, []byte(pairs[0][:1]))
			ok(t, err)
		}
		return l[0]
	}
	for height := 1; height < 3; height++ {
		a := branch{height, []kid{laid(height, "a"+wide), laid(height, "c")}}
		b := branch{height, []kid{laid(height, "d"), laid(height, "e"+wide)}}
		a.kids[0].low, b.kids[0].low = nil, nil
		n, err := m.join(a, b, []byte("d"))
		ok(t, err)
		want := []string{"a=" + wide, "c=", "d=", "e=" + wide}
		m.root, err = m.plant(n)
		ok(t, err)
		audit(t, p, nil, m)
		tells(t, m, want...)
		if blocks := len(state(p)); blocks != 4 {
			t.Errorf("height %d: %d blocks", height, blocks)
		}
		ok(t, m.Free())
	}
	none, some := branch{height: 1}, branch{1, []kid{laid(1, "a"), laid(1, "b")}}
	for _, l := range [][2]branch{{none, some}, {some, none}} {
		n, err := m.join(branch{1, slices.Clone(l[0].kids)}, l[1], []byte("a"))
		if ok(t, err); len(n.leads()) != 2 {
			t.Errorf("%d kids", len(n.leads()))
		}
	}
}

// TestCutNode: bytes that are not all of a node's are none, but where a pair ends.
func TestCutNode(t *testing.T) {
	p, m := begun(t)
	for i := range 20 {
		put(t, m, name(i), "v")
	}
	ok(t, m.Tie([]byte("tie"), []byte("v"), block(t, p, "x")))
	for _, m := range []*Map{m, many(t, p, 200, 20)} {
		b, err := p.Get(m.Root())
		ok(t, err)
		whole, err := m.nodeOf(b)
		ok(t, err)
		nodes := 0
		for i := range b {
			n, err := m.nodeOf(b[:i])
			if err != nil {
				is(t, err, api.ErrSpoilt)
				continue
			}
			if nodes++; !bytes.Equal(n.bytes(), b[:i]) || len(n.spots(nil, nil)) >= len(whole.spots(nil, nil)) {
				t.Fatalf("%d bytes of %d", i, len(b))
			}
		}
		if nodes > len(whole.spots(nil, nil)) {
			t.Errorf("%d nodes in one", nodes)
		}
	}
}

// TestOwnMemory: what goes in is not kept, and what comes out is the caller's.
func TestOwnMemory(t *testing.T) {
	p, m := begun(t)
	key, val := []byte("key"), []byte("val")
	ok(t, m.Put(key, val))
	key[0], val[0] = 'x', 'x'
	ok(t, m.Tie([]byte("tie"), val, block(t, p, "x")))
	val[1] = 'x'
	x, err := m.Tied([]byte("tie"))
	ok(t, err)
	all := []string{"key=val", told([]byte("tie"), []byte("xal"), x)}
	tells(t, m, all...)
	v, err := m.Get([]byte("key"))
	ok(t, err)
	v[0] = 'y'
	_ = append(v[:0], "everything is other now, also what lies behind it"...)
	tells(t, m, all...)
	for q, err := range m.Scan(nil, nil) {
		ok(t, err)
		_ = append(q.Key, "all that lies behind a key"...)
		_ = append(q.Val, "all that lies behind a value"...)
		clear(q.Key)
		clear(q.Val)
	}
	tells(t, m, all...)
	from, to := []byte("key"), []byte("kez")
	seq := m.Scan(from, to)
	from[0], to[0] = 'z', 'z'
	n := 0
	for q, err := range seq {
		if ok(t, err); string(q.Key) != "key" {
			t.Errorf("%q", q.Key)
		}
		n++
	}
	if n != 1 {
		t.Errorf("%d pairs", n)
	}
	s := snapped(t, m)
	put(t, s, "key", "new")
	for c, err := range Diff(m, s) {
		ok(t, err)
		_ = append(c.Key, "behind"...)
		_ = append(c.Old, "behind"...)
		if string(c.New) != "new" || string(c.Old) != "val" || string(c.Key) != "key" {
			t.Errorf("%q %q %q", c.Key, c.Old, c.New)
		}
		clear(c.Key)
		clear(c.Old)
		clear(c.New)
	}
	differs(t, m, s, "key:val>new true true")
}

func TestScan(t *testing.T) {
	p, m := begun(t)
	var all []string
	for i := range 500 {
		put(t, m, name(2*i), "v")
		all = append(all, name(2*i)+"=v")
	}
	audit(t, p, nil, m)
	tells(t, m, all...)
	for _, c := range []struct {
		from, to   string
		first, end int
	}{
		{name(100), name(200), 50, 100},
		{name(101), name(199), 51, 100},
		{name(100), name(101), 50, 51},
		{name(100), name(100), 0, 0},
		{name(101), name(102), 0, 0},
		{name(200), name(100), 0, 0},
		{"", name(10), 0, 5},
		{"", "a", 0, 0},
		{"\x00", "\xff", 0, 500},
		{name(990), "", 495, 500},
		{name(998), "", 499, 500},
		{name(999), "", 0, 0},
		{"z", "", 0, 0},
		{strings.Repeat("a", 1000), strings.Repeat("z", 1000), 0, 500},
		{name(500) + "\x00", name(502) + "\x00", 251, 252},
	} {
		ranges(t, m, c.from, c.to, all[c.first:c.end]...)
	}
	seq := m.Scan([]byte(name(10)), nil)
	for range 2 {
		for most := range 40 {
			n := 0
			for q, err := range seq {
				if ok(t, err); string(q.Key) != name(10+2*n) {
					t.Fatalf("%q", q.Key)
				}
				if n++; n > most {
					break
				}
			}
		}
	}
	put(t, m, name(11), "new")
	n := 0
	for q, err := range seq {
		if ok(t, err); n == 1 && string(q.Key) != name(11) {
			t.Errorf("it tells what was so when it was made: %q", q.Key)
		}
		n++
	}
	ok(t, m.Free())
	for range seq {
		t.Fatal("a pair of a map that was freed")
	}
}

func TestTies(t *testing.T) {
	p, m := begun(t)
	x, y := block(t, p, "x"), block(t, p, "y")
	put(t, m, "k", "old")
	ok(t, m.Tie([]byte("k"), []byte("v"), x))
	ok(t, m.Tie([]byte("l"), nil, y))
	audit(t, p, nil, m)
	got, err := m.Tied([]byte("k"))
	if ok(t, err); got != x {
		t.Errorf("%+v, wanted %+v", got, x)
	}
	v, err := m.Get([]byte("k"))
	if ok(t, err); string(v) != "v" {
		t.Errorf("%q", v)
	}
	tells(t, m, told([]byte("k"), []byte("v"), x), told([]byte("l"), nil, y))
	ok(t, p.Share(x))
	ok(t, m.Tie([]byte("k"), []byte("again"), x))
	if audit(t, p, nil, m); p.Uses(x) != 1 {
		t.Errorf("%d uses", p.Uses(x))
	}
	z := block(t, p, "z")
	ok(t, m.Tie([]byte("k"), []byte("v"), z))
	if p.Uses(x) != 0 || p.Uses(z) != 1 {
		t.Error("a block that is tied no more is in use")
	}
	ok(t, p.Share(z))
	ok(t, m.Tie([]byte("m"), []byte("one block, two keys"), z))
	audit(t, p, nil, m)
	ok(t, m.Del([]byte("k")))
	if p.Uses(z) != 1 {
		t.Error("a block that is tied to another key, too")
	}
	put(t, m, "m", "")
	put(t, m, "l", "")
	if p.Uses(z) != 0 || p.Uses(y) != 0 {
		t.Error("a block that is tied no more is in use")
	}
	got, err = m.Tied([]byte("m"))
	if ok(t, err); got != (api.Ptr{}) {
		t.Error("a block is tied still")
	}
	audit(t, p, nil, m)
	ok(t, m.Free())
	used(t, p, 0)
}

func TestTieRefuses(t *testing.T) {
	p, m := begun(t)
	x := block(t, p, "x")
	gone := block(t, p, "gone")
	ok(t, p.Drop(gone))
	put(t, m, "k", "v")
	wrong := []api.Ptr{{}, gone, {At: x.At, Len: x.Len + 1, Stamp: x.Stamp}, {At: x.At, Len: x.Len, Stamp: x.Stamp + 1}, {At: x.At + 1, Len: x.Len, Stamp: x.Stamp}, {At: -1, Len: -1}, {At: 1 << 40}}
	for _, w := range wrong {
		is(t, m.Tie([]byte("k"), []byte("new"), w), api.ErrBlock)
		is(t, m.Tie([]byte("n"), []byte("new"), w), api.ErrBlock)
	}
	tells(t, m, "k=v")
	audit(t, p, map[api.Ptr]int{x: 1}, m)
}

// TestTiesOfSeveral: each map has its own use of what is tied in it.
func TestTiesOfSeveral(t *testing.T) {
	p, m := begun(t)
	var xs []api.Ptr
	for i := range 100 {
		xs = append(xs, block(t, p, name(i)))
		ok(t, m.Tie([]byte(name(i)), nil, xs[i]))
	}
	s := snapped(t, m)
	u := snapped(t, s)
	put(t, m, name(0), "")
	put(t, s, name(50), "")
	audit(t, p, nil, m, s, u)
	for i, x := range xs {
		b, err := p.Get(x)
		if ok(t, err); string(b) != name(i) {
			t.Fatalf("%q", b)
		}
	}
	ok(t, m.Free())
	ok(t, u.Free())
	audit(t, p, nil, s)
	if p.Uses(xs[50]) != 0 || p.Uses(xs[0]) != 1 {
		t.Error("a block is in use that no map has, or another one is not")
	}
	for i := range xs {
		ok(t, s.Del([]byte(name(i))))
	}
	used(t, p, 0)
}

func TestSnap(t *testing.T) {
	p, m := begun(t)
	var maps []*Map
	var want [][]string
	maps = append(maps, m)
	for i := range 30 {
		for j := range 20 {
			put(t, m, name((i*31+j*17)%200), fmt.Sprint(i))
		}
		maps = append(maps, snapped(t, m))
		l, err := list(m, "", "")
		ok(t, err)
		want = append(want, l)
	}
	audit(t, p, nil, maps...)
	for i, s := range maps[1:] {
		tells(t, s, want[i]...)
		if s.Pool() != p {
			t.Error("another pool")
		}
	}
	ok(t, m.Free())
	tells(t, m)
	audit(t, p, nil, maps...)
	for i := len(want); i > 0; i -= 2 {
		put(t, maps[i], "more", "")
		ok(t, maps[i].Free())
	}
	audit(t, p, nil, maps...)
	for i := 0; i < len(want); i += 2 {
		tells(t, maps[i+1], want[i]...)
		ok(t, maps[i+1].Free())
	}
	used(t, p, 0)
}

// TestSnapMany: of one map there may be as many as a block may have uses.
func TestSnapMany(t *testing.T) {
	p, m := begun(t)
	put(t, m, "k", "v")
	for range api.MaxShare - 1 {
		snapped(t, m)
	}
	s, err := m.Snap()
	if is(t, err, api.ErrMany); s != nil {
		t.Error("a map with an error")
	}
	put(t, m, "k", "w")
	s = snapped(t, m)
	put(t, s, "k", "x")
	tells(t, m, "k=w")
	used(t, p, 3)
}

// TestManyUses: a change that has no further use of a block to take is refused, and changes nothing.
func TestManyUses(t *testing.T) {
	p, m := begun(t)
	x := block(t, p, "x")
	ok(t, m.Tie([]byte("k"), []byte("v"), x))
	for range api.MaxShare - 1 {
		ok(t, p.Share(x))
	}
	put(t, m, "l", "the map has it alone")
	s := snapped(t, m)
	is(t, s.Put([]byte("l"), nil), api.ErrMany)
	is(t, s.Del([]byte("k")), api.ErrMany)
	audit(t, p, map[api.Ptr]int{x: api.MaxShare - 1}, m, s)
	ok(t, p.Drop(x))
	ok(t, s.Del([]byte("k")))
	tells(t, s, "l=the map has it alone")
}

func TestFree(t *testing.T) {
	for _, order := range [][]int{{0, 1, 2}, {0, 2, 1}, {1, 0, 2}, {1, 2, 0}, {2, 0, 1}, {2, 1, 0}} {
		p, _ := made(t, single, 40000)
		mine := block(t, p, "mine")
		before := p.Use().Used
		m := many(t, p, 300, 30)
		ok(t, m.Tie([]byte(name(7)), nil, block(t, p, "x")))
		s := snapped(t, m)
		put(t, m, name(100), "new")
		u := snapped(t, m)
		ok(t, u.Tie([]byte("more"), nil, block(t, p, "y")))
		maps := []*Map{m, s, u}
		for i, k := range order {
			ok(t, maps[k].Free())
			tells(t, maps[k])
			if maps[k].Root() != (api.Ptr{}) {
				t.Error("a root without pairs")
			}
			if audit(t, p, map[api.Ptr]int{mine: 1}, maps...); i == 1 {
				put(t, maps[k], "again", "here")
				tells(t, maps[k], "again=here")
				ok(t, maps[k].Del([]byte("again")))
			}
		}
		used(t, p, before)
	}
}

// TestBecome: a map has another one's pairs, and each goes its own way.
func TestBecome(t *testing.T) {
	p, m := begun(t)
	ok(t, m.Become(New(p)))
	tells(t, m)
	put(t, m, "a", "old")
	ok(t, m.Tie([]byte("x"), nil, block(t, p, "x")))
	old, err := list(m, "", "")
	ok(t, err)
	s := many(t, p, 300, 30)
	want, err := list(s, "", "")
	ok(t, err)
	is(t, p.Try(func() error {
		ok(t, m.Become(s))
		tells(t, m, want...)
		audit(t, p, nil, m, s)
		return api.ErrForm
	}), api.ErrForm)
	tells(t, m, old...)
	ok(t, m.Become(s))
	audit(t, p, nil, m, s)
	put(t, m, name(7), "other")
	tells(t, s, want...)
	put(t, s, name(9), "other")
	val := strings.Repeat("v", 30)
	differs(t, m, s, name(7)+":other>"+val+" true true", name(9)+":"+val+">other true true")
	u := snapped(t, m)
	ok(t, m.Become(u)) // the very same pairs
	ok(t, m.Become(m))
	differs(t, m, u)
	audit(t, p, nil, m, s, u)
	ok(t, s.Become(New(p)))
	tells(t, s)
	ok(t, u.Free())
	ok(t, m.Free())
	used(t, p, 0)
}

// TestBecomeFails: where something cannot be read, or there would be too many uses, nothing is changed.
func TestBecomeFails(t *testing.T) {
	p, l := made(t, single, 40000)
	m, s := many(t, p, 50, 30), many(t, p, 2, 3)
	ok(t, p.Commit(nil))
	l[0].Spoil(m.Root().At, 0, 1)
	is(t, m.Become(s), api.ErrSpoilt)
	l[0].Spoil(m.Root().At, 0, 1)
	audit(t, p, nil, m, s)
	for range api.MaxShare - 1 {
		ok(t, p.Share(s.Root()))
	}
	root := m.Root()
	is(t, m.Become(s), api.ErrMany)
	if m.Root() != root || p.Uses(root) != 1 {
		t.Error("the map is another one")
	}
}

// TestDelAll: when all pairs of several maps are deleted, in whatever order, nothing is in use.
func TestDelAll(t *testing.T) {
	for seed := range 4 {
		p, _ := made(t, shapes[seed], 20000)
		r := rand.New(rand.NewSource(int64(seed)))
		m := many(t, p, 400, 20)
		s := snapped(t, m)
		for i := range 40 {
			put(t, s, name(r.Intn(400)), fmt.Sprint("other ", i))
		}
		for _, i := range r.Perm(400) {
			ok(t, m.Del([]byte(name(i))))
		}
		audit(t, p, nil, m, s)
		for i := range 400 {
			ok(t, s.Del([]byte(name(399-i))))
		}
		used(t, p, 0)
	}
}

func TestDiff(t *testing.T) {
	p, m := begun(t)
	put(t, m, "a", "1")
	put(t, m, "ab", "")
	put(t, m, "b", "22")
	s := snapped(t, m)
	differs(t, m, s)
	ok(t, m.Del([]byte("a")))
	put(t, s, "c", "3")
	differs(t, m, s, "a:>1 false true", "c:>3 false true")
	differs(t, s, m, "a:1> true false", "c:3> true false")
	differs(t, m, m)
	put(t, s, "ab", "x")
	put(t, m, "b", "")
	differs(t, m, s, "a:>1 false true", "ab:>x true true", "b:>22 true true", "c:>3 false true")
	put(t, m, "b", "22")
	x, y := block(t, p, "one"), block(t, p, "one")
	ok(t, m.Tie([]byte("b"), []byte("22"), x))
	differs(t, m, s, "a:>1 false true", "ab:>x true true", "b:22>22 true true", "c:>3 false true")
	ok(t, s.Tie([]byte("b"), []byte("22"), y))
	differs(t, s, m, "a:1> true false", "ab:x> true true", "b:22>22 true true", "c:3> true false")
	ok(t, p.Share(x))
	ok(t, s.Tie([]byte("b"), []byte("22"), x))
	differs(t, m, s, "a:>1 false true", "ab:>x true true", "c:>3 false true")
	e := New(p)
	differs(t, e, s, "a:>1 false true", "ab:>x false true", "b:>22 false true", "c:>3 false true")
	differs(t, s, e, "a:1> true false", "ab:x> true false", "b:22> true false", "c:3> true false")
	seq := Diff(e, s)
	for most := range 4 {
		n := 0
		for _, err := range seq {
			ok(t, err)
			if n++; n > most {
				break
			}
		}
	}
	put(t, e, "a", "1")
	for c, err := range seq {
		if ok(t, err); string(c.Key) != "ab" {
			t.Errorf("it tells what was so when it was made: %q", c.Key)
		}
		break
	}
}

// TestDiffApart: maps that have no block in common, with all pairs, but few, the same.
func TestDiffApart(t *testing.T) {
	p, _ := made(t, single, 40000)
	a, b := New(p), New(p)
	for i := range 600 {
		put(t, a, name(i), "v")
		put(t, b, name(599-i), "v")
	}
	differs(t, a, b)
	put(t, b, name(70), "w")
	ok(t, a.Del([]byte(name(300))))
	put(t, a, name(599), "last")
	differs(t, a, b, name(70)+":v>w true true", name(300)+":>v false true", name(599)+":last>v true true")
	for i := 100; i < 500; i++ {
		b.Del([]byte(name(i)))
	}
	l, err := differ(a, b)
	if ok(t, err); len(l) != 401 {
		t.Errorf("%d", len(l))
	}
}

// TestDiffReads: what two maps have in common is not read.
func TestDiffReads(t *testing.T) {
	p, l := made(t, single, 40000)
	m := many(t, p, 2000, 20)
	s := snapped(t, m)
	put(t, m, name(1000), "other")
	put(t, s, "a", "first")
	put(t, s, "z", "last")
	ok(t, p.Commit(nil))
	mine, other := map[api.Ptr]int{}, map[api.Ptr]int{}
	auditNode(t, m, m.root, anyHeight, nil, nil, mine)
	auditNode(t, s, s.root, anyHeight, nil, nil, other)
	lost := 0
	for x := range mine {
		if other[x] > 0 {
			l[0].Lose(x.At)
			lost++
		}
	}
	if lost < 30 {
		t.Fatalf("%d blocks in common", lost)
	}
	v := strings.Repeat("v", 20)
	differs(t, m, s, "a:>first false true", name(1000)+":other>"+v+" true true", "z:>last false true")
}

func TestTry(t *testing.T) {
	p, m := begun(t)
	put(t, m, "a", "1")
	x := block(t, p, "x")
	ok(t, m.Tie([]byte("tie"), nil, x))
	s := snapped(t, m)
	y := block(t, p, "y")
	all := []string{"a=1", told([]byte("tie"), nil, x)}
	use, root := p.Use(), m.Root()
	mine := errors.New("mine")
	var u *Map
	work := func() {
		for i := range 200 {
			put(t, m, name(i), "x")
			put(t, s, name(i), "y")
		}
		u = snapped(t, m)
		ok(t, m.Tie([]byte("a"), nil, y))
		ok(t, m.Del([]byte("tie")))
		ok(t, s.Free())
		put(t, u, "u", "")
		_, err := u.Get([]byte("a"))
		ok(t, err)
	}
	same := func() {
		t.Helper()
		tells(t, m, all...)
		tells(t, s, all...)
		if audit(t, p, map[api.Ptr]int{y: 1}, m, s); p.Use() != use || m.Root() != root {
			t.Fatalf("%+v, and it was %+v", p.Use(), use)
		}
		if tells(t, u); u.Root() != (api.Ptr{}) {
			t.Fatal("a map whose making was undone has pairs")
		}
	}
	if err := m.Try(func() error { work(); return mine }); err != mine {
		t.Fatal(err)
	}
	same()
	if err := p.Try(func() error { work(); return mine }); err != mine {
		t.Fatal(err)
	}
	same()
	func() {
		defer func() {
			if recover() != any("out") {
				t.Error("the panic did not go on")
			}
		}()
		m.Try(func() error { work(); panic("out") })
	}()
	same()
	is(t, m.Try(func() error {
		put(t, m, "b", "2")
		ok(t, m.Try(func() error { put(t, m, "c", "3"); return nil }))
		is(t, m.Try(func() error { work(); return api.ErrArg }), api.ErrArg)
		tells(t, m, all[0], "b=2", "c=3", all[1])
		return api.ErrForm
	}), api.ErrForm)
	same()
	ok(t, m.Try(func() error {
		put(t, m, "b", "2")
		is(t, m.Try(func() error { work(); return api.ErrArg }), api.ErrArg)
		is(t, p.Commit(nil), api.ErrOrder)
		return nil
	}))
	tells(t, m, all[0], "b=2", all[1])
	tells(t, s, all...)
	ok(t, m.Try(func() error { work(); return nil }))
	audit(t, p, nil, m, s, u)
}

func TestLoad(t *testing.T) {
	for _, shape := range shapes {
		p, l := made(t, shape, 20000)
		m := many(t, p, 500, 10)
		x := block(t, p, "x")
		ok(t, m.Tie([]byte("tie"), nil, x))
		s := snapped(t, m)
		put(t, s, "s", "")
		want, err := list(m, "", "")
		ok(t, err)
		ok(t, p.Commit([]byte("root")))
		put(t, m, "lost", "by the crash")
		for _, d := range l {
			d.Crash(nil)
		}
		p, err = pool.Open(l, shape)
		ok(t, err)
		s = Load(p, s.Root())
		ok(t, s.Del([]byte("s")))
		tells(t, s, want...)
		_, err = Load(p, m.Root()).Get([]byte("lost"))
		is(t, err, api.ErrBlock)
	}
}

// TestReload: maps are taken up behind a commit, and are freed then.
func TestReload(t *testing.T) {
	p, l := made(t, single, 20000)
	m := many(t, p, 500, 10)
	s := snapped(t, m)
	put(t, s, name(3), "other")
	ok(t, p.Commit(nil))
	for range 3 {
		var err error
		p, err = pool.Open(l, single)
		ok(t, err)
		m, s = Load(p, m.Root()), Load(p, s.Root())
		if m.Pool() != p {
			t.Fatal("another pool")
		}
		audit(t, p, nil, m, s)
		put(t, m, name(7), "more")
		ok(t, s.Del([]byte(name(490))))
		ok(t, p.Commit(nil))
		put(t, s, name(490), "again")
		ok(t, p.Commit(nil))
	}
	ok(t, s.Free())
	ok(t, m.Free())
	ok(t, p.Commit(nil))
	if u := p.Use(); u.Used != 0 || u.Free != u.All {
		t.Errorf("%+v", u)
	}
}

// TestRows: a change of a map of which there is another one takes few rows.
func TestRows(t *testing.T) {
	p, _ := made(t, single, 40000)
	m := many(t, p, 5000, 10)
	for i := range 50 {
		before := p.Use().Used
		s := snapped(t, m)
		used(t, p, before)
		put(t, m, name(i*97), "other")
		if more := p.Use().Used - before; more > 32 {
			t.Fatalf("one change takes %d rows", more)
		}
		ok(t, s.Free())
	}
	if n := p.Use().Used; n > 3000 {
		t.Errorf("5000 pairs of 23 bytes have %d rows", n)
	}
}

// TestFewLeft: what is left of many pairs takes no more rows than if there had been no others.
func TestFewLeft(t *testing.T) {
	for seed := range 20 {
		p, _ := made(t, single, 40000)
		r := rand.New(rand.NewSource(int64(seed)))
		m := New(p)
		for i := range 1000 {
			put(t, m, name(i), strings.Repeat("v", r.Intn(300)*r.Intn(2)))
		}
		perm := r.Perm(1000)
		for _, i := range perm[:997] {
			ok(t, m.Del([]byte(name(i))))
		}
		audit(t, p, nil, m)
		for _, i := range perm[997:] {
			put(t, m, name(i), "v")
		}
		used(t, p, 1)
	}
}

// TestNoRoom: what finds no room changes nothing, and what is deleted makes room again.
func TestNoRoom(t *testing.T) {
	p, _ := made(t, single, 200)
	m := New(p)
	mine := map[api.Ptr]int{}
	n := 0
	for ; ; n++ {
		root, use := m.Root(), p.Use()
		err := m.Put([]byte(name(n)), make([]byte, 100))
		if err == nil {
			continue
		}
		if is(t, err, api.ErrRoom); m.Root() != root || p.Use() != use {
			t.Fatal("what was refused was done")
		}
		break
	}
	audit(t, p, mine, m)
	if n < 30 {
		t.Fatalf("%d pairs", n)
	}
	for i := range n {
		v, err := m.Get([]byte(name(i)))
		if ok(t, err); len(v) != 100 {
			t.Fatal("another value")
		}
	}
	s := snapped(t, m)
	is(t, s.Put([]byte(name(0)), make([]byte, 400)), api.ErrRoom)
	audit(t, p, mine, m, s)
	ok(t, m.Free())
	ok(t, s.Free())
	used(t, p, 0)
}

// TestWrongBlocks: of blocks that no map has put nothing is promised, but that all calls end.
func TestWrongBlocks(t *testing.T) {
	p, _ := made(t, single, 40000)
	m := many(t, p, 300, 10)
	ok(t, m.Tie([]byte("tie"), nil, block(t, p, "x")))
	whole, err := p.Get(m.Root())
	ok(t, err)
	r := rand.New(rand.NewSource(1))
	blocks := [][]byte{nil, {0}, {1}, {255}, {1, 0}, {0, 1, 0, 128, 'a'}, {0, 255, 255, 255}, {0, 0, 1, 0, 'v'}, make([]byte, 3901), append([]byte{1, 0}, make([]byte, 14)...)}
	for range 3000 {
		b := slices.Clone(whole)
		for range r.Intn(4) {
			b[r.Intn(len(b))] = byte(r.Intn(256))
		}
		blocks = append(blocks, b[:len(b)-r.Intn(2)*r.Intn(len(b))])
	}
	for _, b := range blocks {
		x, err := p.Put(b)
		ok(t, err)
		was := p.Use()
		w := Load(p, x)
		w.Get([]byte("key 000100"))
		w.Tied([]byte("tie"))
		for _, err := range w.Scan([]byte("key"), []byte("z")) {
			_ = err
		}
		for _, err := range Diff(w, m) {
			_ = err
		}
		is(t, p.Try(func() error {
			w.Put([]byte("key 000100"), []byte("v"))
			w.Del([]byte("key 000200"))
			w.Free()
			return api.ErrForm
		}), api.ErrForm)
		if ok(t, p.Drop(x)); p.Use().Used >= was.Used {
			t.Fatal("what was tried was not undone")
		}
	}
	audit(t, p, nil, m)
	for _, x := range []api.Ptr{{At: 1}, {At: -5, Len: 9, Stamp: 1}, {At: 100, Len: 1, Stamp: 1 << 60}} {
		w := Load(p, x)
		_, err := w.Get([]byte("a"))
		is(t, err, api.ErrBlock)
		is(t, w.Put([]byte("a"), nil), api.ErrBlock)
		is(t, w.Free(), api.ErrBlock)
		_, err = w.Snap()
		is(t, err, api.ErrBlock)
		_, err = list(w, "", "")
		is(t, err, api.ErrBlock)
		if w.Root() != x {
			t.Error("another root")
		}
	}
}

// TestRowsOfAChange: one change of a map that has all its blocks in common with another one takes few rows, however many pairs it has, and however long what is alike in their keys.
func TestRowsOfAChange(t *testing.T) {
	r := rand.New(rand.NewSource(1))
	for what, key := range map[string]func(i int) string{
		"rising":          func(i int) string { return fmt.Sprintf("%08d", i) },
		"at random":       func(i int) string { return fmt.Sprintf("%x", r.Uint64()) },
		"long, alike":     func(i int) string { return fmt.Sprintf("%0*d", api.MaxKey, r.Intn(1<<30)) },
		"long, in twos":   func(i int) string { return fmt.Sprintf("%08x%0*d", i/2*7919%10000, api.MaxKey-8, i) },
		"long, by itself": func(i int) string { return fmt.Sprintf("%016x%0*d", r.Uint64(), api.MaxKey-16, i) },
	} {
		p, _ := made(t, single, 1<<20)
		m := New(p)
		for i := range 8000 {
			put(t, m, key(i), "the value")
		}
		for i := range 200 {
			s := snapped(t, m)
			before := p.Use().Used
			put(t, m, key(20000+i), "the value")
			if more := p.Use().Used - before; more > 24 {
				t.Errorf("%s: %d rows more are in use", what, more)
			}
			ok(t, s.Free())
		}
		ok(t, m.Free())
		used(t, p, 0)
	}
}

// TestNodesByRows: where rows are wider, nodes are, too: a branch is one row.
func TestNodesByRows(t *testing.T) {
	for _, shape := range []api.Shape{{Data: 1}, {Data: 2, Level: 1}, {Data: 6, Level: 2}} {
		p, _ := made(t, shape, 20000)
		m := many(t, p, 3000, 10)
		audit(t, p, nil, m)
		if m.room(0) != 2*p.RowBytes() || m.room(1) != p.RowBytes() {
			t.Errorf("%+v: nodes of %d and of %d bytes", shape, m.room(0), m.room(1))
		}
		rows := p.Use().Used
		if bytes := 3000 * (3 + len(name(0)) + 10); rows*p.RowBytes() > 2*bytes {
			t.Errorf("%+v: %d rows of %d bytes for %d", shape, rows, p.RowBytes(), bytes)
		}
	}
}

// TestMiddle: a list is cut where both parts have room, as evenly as can be, and where few bytes stand between.
func TestMiddle(t *testing.T) {
	for _, c := range []struct {
		keys        string // one byte of each is its own
		val         int
		most, least int
		want        string // how many pairs each piece has
	}{
		{"", 1, 50, 1, ""},
		{"a", 400, 50, 1, "1"},
		{"a b c", 10, 60, 1, "3"},
		{"a b c d", 10, 55, 1, "2 2"},
		{"a b c d", 10, 27, 1, "1 1 1 1"},
		{"a b c d", 10, 27, 2, "2 2"},
		{"a b c", 400, 27, 2, "3"},
		{"aaaaaaaaaaa1 aaaaaaaaaaa2 aaaaaaaaaaa3 b1 b2 b3", 8, 100, 1, "3 3"},
		{"aaaaaaaaaaa1 aaaaaaaaaaa2 aaaaaaaaaaa3 b1", 8, 80, 1, "2 2"},
		{"aaaaaaaaaaa1 aaaaaaaaaaa2 aaaaaaaaaaa3 b1 b2 b3", 8, 65, 1, "2 4"},
		{"a bbbbbbbbbbbbbbbbbbbb1 bbbbbbbbbbbbbbbbbbbb2", 1, 50, 1, "2 1"},
	} {
		var l leaf
		for _, k := range strings.Fields(c.keys) {
			l = append(l, pair{Key: []byte(k), Val: make([]byte, c.val)})
		}
		var got []string
		for _, piece := range cut(l, c.most, c.least) {
			got = append(got, fmt.Sprint(len(piece)))
		}
		if s := strings.Join(got, " "); s != c.want {
			t.Errorf("%s: %s, wanted %s", c.keys, s, c.want)
		}
	}
}

// TestFull: nodes are left well filled, in whatever order the pairs come.
func TestFull(t *testing.T) {
	for what, key := range map[string]func(i int) int{
		"up": func(i int) int { return i }, "down": func(i int) int { return 5000 - i },
		"from both ends": func(i int) int { return i%2*10000 + (1-i%2*2)*i }, "in no order": func(i int) int { return i * 7919 % 5000 },
	} {
		p, m := begun(t)
		pairs := 0
		for i := range 5000 {
			put(t, m, name(key(i)), "the value of a key")
			pairs += 3 + len(name(0)) + 18
		}
		audit(t, p, nil, m)
		leaves, branches := 0, 0
		for x := range p.Blocks() {
			if n, err := m.read(x, anyHeight); err != nil {
				t.Fatal(err)
			} else if n.above() == 0 {
				leaves++
			} else {
				branches++
			}
		}
		if full := leaves * m.room(0); 3*pairs < 2*full || leaves < 6*branches {
			t.Errorf("%s: %d bytes in %d leaves, %d branches", what, pairs, leaves, branches)
		}
	}
}
