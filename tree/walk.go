package tree

import (
	"bytes"
	"cmp"
	"iter"
	"slices"

	"bedrock/api"
)

// walk goes over a map by its keys.
type walk struct {
	m    *Map
	from []byte // what is ahead of it is left out
	next []spot // what it comes to, the next one last
}

// spot is what a walk comes to: a pair, or a node that was not read yet.
type spot struct {
	low    []byte // the pair's key, or what none of the node's keys is ahead of
	height int    // the node's; onPair of a pair
	to     api.Ptr
	pair   pair
}

const onPair = -1

func (m *Map) walk(from []byte) *walk {
	w := &walk{m: m, from: from}
	if m.top() != (api.Ptr{}) {
		w.next = []spot{{height: anyHeight, to: m.top()}}
	}
	return w
}

func (w *walk) over() bool { return len(w.next) == 0 }

func (w *walk) front() spot { return w.next[len(w.next)-1] }

func (w *walk) pass() { w.next = w.next[:len(w.next)-1] }

// open reads the node at the front: what it has is there then.
func (w *walk) open() error {
	s := w.front()
	n, err := w.m.read(s.to, s.height)
	if err != nil {
		return err
	}
	w.pass()
	l := n.spots(s.low, w.from)
	if !w.rise(s.low, l) {
		return api.ErrSpoilt
	}
	slices.Reverse(l)
	w.next = append(w.next, l...)
	return nil
}

// rise tells whether spots come by their lows, from low on, and ahead of what comes next. Where they don't, they were not put there by a map; and a walk over nodes that lead to one another again and again would not end.
func (w *walk) rise(low []byte, l []spot) bool {
	for i, s := range l {
		if c := bytes.Compare(low, s.low); c > 0 || c == 0 && i > 0 {
			return false
		}
		low = s.low
	}
	return w.over() || len(l) == 0 || bytes.Compare(low, w.front().low) < 0
}

func (l leaf) spots(_, from []byte) []spot {
	var out []spot
	i, _ := l.find(from)
	for _, p := range l[i:] {
		out = append(out, spot{low: p.Key, height: onPair, pair: p})
	}
	return out
}

func (b branch) spots(low, from []byte) []spot {
	var out []spot
	first := b.find(from)
	for i, k := range b.kids[first:] {
		if first+i > 0 {
			low = k.low
		}
		out = append(out, spot{low: low, height: b.height - 1, to: k.to})
	}
	return out
}

// Scan goes over the pairs whose keys are not ahead of from, and ahead of to.
func (m *Map) Scan(from, to []byte) iter.Seq2[api.Pair, error] {
	from, to = slices.Clone(from), slices.Clone(to)
	end := func(low []byte) bool { return len(to) > 0 && bytes.Compare(low, to) >= 0 }
	return func(yield func(api.Pair, error) bool) {
		for w := m.walk(from); !w.over() && !end(from) && !end(w.front().low); {
			s := w.front()
			if s.height != onPair {
				if err := w.open(); err != nil {
					yield(api.Pair{}, err)
					return
				}
				continue
			}
			w.pass()
			if !yield(api.Pair{Key: slices.Clone(s.pair.Key), Val: slices.Clone(s.pair.Val), Block: s.pair.Block}, nil) {
				return
			}
		}
	}
}

// Diff goes over the keys that have not the same in both maps.
func Diff(a, b *Map) iter.Seq2[api.Change, error] {
	return func(yield func(api.Change, error) bool) {
		for x, y := a.walk(nil), b.walk(nil); !x.over() || !y.over(); {
			c, is, err := step(x, y)
			switch {
			case err != nil:
				yield(api.Change{}, err)
				return
			case is && !yield(c, nil):
				return
			}
		}
	}
}

// step goes on in that one of two walks that is behind, or in both; it tells a change, if it comes to one. What both have in common is not even read.
func step(x, y *walk) (api.Change, bool, error) {
	switch which := order(x, y); {
	case same(x, y):
		x.pass()
		y.pass()
		return api.Change{}, false, nil
	case which <= 0 && x.front().height != onPair:
		return api.Change{}, false, x.open()
	case which > 0 && y.front().height != onPair:
		return api.Change{}, false, y.open()
	default:
		var c api.Change
		if which <= 0 {
			p := x.front().pair
			x.pass()
			c.Key, c.Old, c.Had = slices.Clone(p.Key), slices.Clone(p.Val), true
		}
		if which >= 0 {
			p := y.front().pair
			y.pass()
			c.Key, c.New, c.Has = slices.Clone(p.Key), slices.Clone(p.Val), true
		}
		return c, true, nil
	}
}

// order is below 0, if the first walk is behind the other one, above 0, if the other one is. Where both have come as far a node is opened ahead of those below it.
func order(x, y *walk) int {
	switch {
	case y.over():
		return -1
	case x.over():
		return 1
	}
	a, b := x.front(), y.front()
	return cmp.Or(bytes.Compare(a.low, b.low), b.height-a.height)
}

// same tells whether both walks come to the same: one block, or pairs that are alike.
func same(x, y *walk) bool {
	if x.over() || y.over() {
		return false
	}
	a, b := x.front(), y.front()
	if a.height != onPair && b.height != onPair {
		return a.to == b.to
	}
	return a.height == b.height && bytes.Equal(a.pair.Key, b.pair.Key) && bytes.Equal(a.pair.Val, b.pair.Val) && a.pair.Block == b.pair.Block
}
