package tree

import (
	"slices"

	"bedrock/api"
	"bedrock/number"
)

// read reads the node at x, which is so far above the leaves.
func (m *Map) read(x api.Ptr, height int) (node, error) {
	n, err := m.nodeAt(x)
	if err == nil && height != anyHeight && height != n.above() {
		err = api.ErrSpoilt
	}
	if err != nil {
		return nil, err
	}
	return n, nil
}

// nodeAt is the node at x, of those to which top leads.
func (m *Map) nodeAt(x api.Ptr) (node, error) {
	if n, ok := m.worn.node(x); ok {
		return n, nil
	}
	b, err := m.pool.Get(x)
	if err != nil {
		return nil, err
	}
	return m.nodeOf(b)
}

// nodeOf is the node that has these bytes. Others were not put there by a map.
func (m *Map) nodeOf(b []byte) (node, error) {
	r := &rest{b: b, lead: m.pool.Lead}
	height := r.number(headSize)
	var n node
	if height == 0 {
		n = leafOf(r)
	} else {
		n = branchOf(r, height)
	}
	if r.wrong {
		return nil, api.ErrSpoilt
	}
	return n, nil
}

// leafOf is a leaf: it has one pair at least.
func leafOf(r *rest) leaf {
	var l leaf
	for first := true; first || len(r.b) > 0; first = false {
		size, n := r.number(1), r.number(2)
		p := pair{Key: r.next(size), Val: r.next(n &^ tied)}
		if n&tied > 0 {
			p.Block = r.ptr()
		}
		r.wrong = r.wrong || checkPair(p.Key, p.Val) != nil
		l = append(l, p)
	}
	return l
}

// branchOf is a branch: it has one kid at least.
func branchOf(r *rest, height int) branch {
	b := branch{height, make([]kid, 1, 1+len(r.b)/(2+placeSize))}
	b.kids[0].to = r.ptr()
	var low []byte
	for len(r.b) > 0 {
		low = r.low(low)
		r.wrong = r.wrong || checkKey(low) != nil
		b.kids = append(b.kids, kid{low, r.ptr()})
	}
	return b
}

// rest is what is still to be read of a block's bytes.
type rest struct {
	b     []byte
	lead  func(at int) (api.Ptr, error)
	wrong bool // they are no node's
}

// next is the next n bytes, without room to grow into those behind them.
func (r *rest) next(n int) []byte {
	if n > len(r.b) {
		r.b, r.wrong = nil, true
		return nil
	}
	out := r.b[:n:n]
	r.b = r.b[n:]
	return out
}

func (r *rest) number(n int) int { return int(number.Of(r.next(n))) }

// low is the next low, which begins as the one ahead of it.
func (r *rest) low(ahead []byte) []byte {
	n := r.number(1)
	if n > len(ahead) {
		r.wrong, n = true, 0
	}
	rest := r.next(r.number(1))
	if n == 0 {
		return rest
	}
	return slices.Concat(ahead[:n], rest)
}

// ptr leads to the block of which the place comes next.
func (r *rest) ptr() api.Ptr {
	x, err := r.lead(r.number(placeSize))
	r.wrong = r.wrong || err != nil
	return x
}
