package parity

import (
	"slices"

	"bedrock/api"
)

// pieces is a list of pieces; one that is empty is lost, and adds nothing to a sum.
type pieces [][]byte

// few tells whether their number is one that pieces of data may have.
func (l pieces) few() bool { return len(l) >= 1 && len(l) <= api.MaxPieces }

// even tells whether all that are not lost have one length, and one that is allowed. (If all are lost there is none.)
func (l pieces) even() bool {
	n := l.size()
	for _, b := range l {
		if len(b) != 0 && len(b) != n {
			return false
		}
	}
	return n >= 1 && n <= api.MaxBlock
}

// fit tells whether they may be pieces of data.
func (l pieces) fit() bool { return l.few() && l.even() }

// size is the length of the first piece that is not lost.
func (l pieces) size() int {
	for _, b := range l {
		if len(b) != 0 {
			return len(b)
		}
	}
	return 0
}

// gaps are the numbers of those that are lost.
func (l pieces) gaps() []int {
	var out []int
	for i, b := range l {
		if len(b) == 0 {
			out = append(out, i)
		}
	}
	return out
}

func (l pieces) lost() int { return len(l.gaps()) }

// clone is the same pieces in memory of their own.
func (l pieces) clone() pieces {
	out := make(pieces, len(l))
	for i, b := range l {
		out[i] = slices.Clone(b)
	}
	return out
}

// plain is the sum of all pieces, of size bytes.
func (l pieces) plain(size int) tally {
	t := make(tally, size)
	for _, b := range l {
		t.add(b)
	}
	return t
}

// weighted is the sum of 2^i times the piece numbered i. From the last one on each doubling serves all pieces behind it.
func (l pieces) weighted(size int) tally {
	t := make(tally, size)
	for _, b := range slices.Backward(l) {
		t.double()
		t.add(b)
	}
	return t
}

// made are the level further pieces.
func (l pieces) made(level int) pieces {
	var out pieces
	if level > 0 {
		out = append(out, l.plain(l.size()))
	}
	if level > 1 {
		out = append(out, l.weighted(l.size()))
	}
	return out
}

// one is the piece numbered i, the only one that l lacks.
func (l pieces) one(i int, more pieces) []byte {
	if p := more[0]; len(p) > 0 {
		t := l.plain(len(p))
		t.add(p)
		return t
	}
	q := more[1]
	t := l.weighted(len(q))
	t.add(q)
	t.times(inverse(power(i)))
	return t
}

// two are the pieces numbered i and j, the only ones that l lacks. What P tells is their sum x + y, what Q tells 2^i x + 2^j y.
func (l pieces) two(i, j int, more pieces) (x, y []byte) {
	p := l.plain(len(more[0]))
	p.add(more[0])
	q := l.weighted(len(more[1]))
	q.add(more[1])

	first := tally(slices.Clone(p))
	first.times(power(j))
	first.add(q)
	first.times(inverse(power(i) ^ power(j)))
	p.add(first)
	return first, p
}
