package tree

import (
	"bedrock/api"
	"bedrock/number"
)

// read reads the node at x, which is so far above the leaves.
func (m *Map) read(x api.Ptr, height int) (node, error) {
	b, err := m.bytes(x)
	if err != nil {
		return nil, err
	}
	return nodeAt(b, height)
}

// nodeAt is the node that has these bytes, and is so far above the leaves. Others were not put there by a map.
func nodeAt(b []byte, height int) (node, error) {
	n := nodeOf(b)
	if n == nil || height != anyHeight && height != n.above() {
		return nil, api.ErrSpoilt
	}
	return n, nil
}

// nodeOf is the node that has these bytes; nil, if none has.
func nodeOf(b []byte) node {
	r := &rest{b: b}
	height := r.number(headSize)
	var n node
	if height == 0 {
		n = leafOf(r)
	} else {
		n = branchOf(r, height)
	}
	if r.wrong {
		return nil
	}
	return n
}

func leafOf(r *rest) leaf {
	var l leaf
	for len(r.b) > 0 {
		size := r.number(1)
		if size == 0 {
			r.wrong = true
		}
		n := r.number(2)
		p := pair{Key: r.next(size), Val: r.next(n &^ tied)}
		if n&tied > 0 {
			p.Block = r.ptr()
		}
		l = append(l, p)
	}
	return l
}

// branchOf is a branch: it has one kid at least.
func branchOf(r *rest, height int) branch {
	b := branch{height: height}
	for first := true; first || len(r.b) > 0; first = false {
		b.kids = append(b.kids, kid{r.next(r.number(1)), r.ptr()})
	}
	return b
}

// rest is what is still to be read of a block's bytes.
type rest struct {
	b     []byte
	wrong bool // they are no node's
}

// next is the next n bytes, without room to grow into those behind them.
func (r *rest) next(n int) []byte {
	if n > len(r.b) {
		r.b, r.wrong = nil, true
		return nil
	}
	out := r.b[:n:n]
	r.b = r.b[n:]
	return out
}

func (r *rest) number(n int) int { return int(number.Of(r.next(n))) }

func (r *rest) ptr() api.Ptr {
	b := r.next(number.PtrSize)
	if r.wrong {
		return api.Ptr{}
	}
	return number.PtrOf(b)
}
