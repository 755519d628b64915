package space

import "bedrock/api"

// state is what is known of the rows of a piece.
type state byte

const (
	fresh state = iota // in use, since the last Turn
	kept               // in use, and so they were at the last Turn
	held               // in use at the last Turn, and not any more
)

// piece is a run of rows that are not free.
type piece struct {
	api.Run
	state state
}

func (p piece) end() int { return p.At + p.N }

// knot is a list of pieces by their places: a piece, those ahead of it, and those behind it, as a balanced tree. A knot never changes.
type knot struct {
	piece
	ahead, behind *knot
	deep          int
	first, last   int // the row at which its first piece begins, and that at which its last one ends
	widest        int // how many free rows there are at most between two of its pieces
}

// tie makes a knot of its parts.
func tie(ahead *knot, p piece, behind *knot) *knot {
	k := &knot{piece: p, ahead: ahead, behind: behind, first: p.At, last: p.end()}
	if ahead != nil {
		k.first = ahead.first
		k.widest = max(ahead.widest, p.At-ahead.last)
	}
	if behind != nil {
		k.last = behind.last
		k.widest = max(k.widest, behind.widest, behind.first-p.end())
	}
	k.deep = 1 + max(ahead.depth(), behind.depth())
	return k
}

// balance is tie for parts whose depths differ by two at most: those of the knot differ by one at most.
func balance(ahead *knot, p piece, behind *knot) *knot {
	switch by := ahead.depth() - behind.depth(); {
	case by > 1 && ahead.ahead.depth() >= ahead.behind.depth():
		return tie(ahead.ahead, ahead.piece, tie(ahead.behind, p, behind))
	case by > 1:
		mid := ahead.behind
		return tie(tie(ahead.ahead, ahead.piece, mid.ahead), mid.piece, tie(mid.behind, p, behind))
	case by < -1 && behind.behind.depth() >= behind.ahead.depth():
		return tie(tie(ahead, p, behind.ahead), behind.piece, behind.behind)
	case by < -1:
		mid := behind.ahead
		return tie(tie(ahead, p, mid.ahead), mid.piece, tie(mid.behind, behind.piece, behind.behind))
	}
	return tie(ahead, p, behind)
}

// listed is a list of pieces that are in their order.
func listed(l []piece) *knot {
	if len(l) == 0 {
		return nil
	}
	mid := len(l) / 2
	return tie(listed(l[:mid]), l[mid], listed(l[mid+1:]))
}

func (k *knot) depth() int {
	if k == nil {
		return 0
	}
	return k.deep
}

// find is the knot whose own piece begins at a row; nil, if there is none.
func (k *knot) find(at int) *knot {
	for k != nil && k.At != at {
		if at < k.At {
			k = k.ahead
		} else {
			k = k.behind
		}
	}
	return k
}

// with is the list with p, in the place of the piece that begins there, if there is one.
func (k *knot) with(p piece) *knot {
	switch {
	case k == nil:
		return tie(nil, p, nil)
	case p.At < k.At:
		return balance(k.ahead.with(p), k.piece, k.behind)
	case p.At > k.At:
		return balance(k.ahead, k.piece, k.behind.with(p))
	}
	return tie(k.ahead, p, k.behind)
}

// without is the list without the piece that begins at a row.
func (k *knot) without(at int) *knot {
	switch {
	case k == nil:
		return nil
	case at < k.At:
		return balance(k.ahead.without(at), k.piece, k.behind)
	case at > k.At:
		return balance(k.ahead, k.piece, k.behind.without(at))
	case k.behind == nil:
		return k.ahead
	}
	next := k.behind.find(k.behind.first).piece
	return balance(k.ahead, next, k.behind.without(next.At))
}

// gap is where the first n free rows begin that lie one behind the other, of those from one row up to another among which the list lies; -1, if there are none.
func (k *knot) gap(n, from, to int) int {
	switch {
	case k == nil && n > to-from:
		return -1
	case k == nil:
		return from
	case n > max(k.widest, k.first-from, to-k.last):
		return -1
	}
	if at := k.ahead.gap(n, from, k.At); at >= 0 {
		return at
	}
	return k.behind.gap(n, k.end(), to)
}

// each hands on the pieces, one by one, as long as it is told to go on.
func (k *knot) each(yield func(piece) bool) bool {
	return k == nil || k.ahead.each(yield) && yield(k.piece) && k.behind.each(yield)
}
