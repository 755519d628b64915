package tree

// item is one of a list that may be cut.
type item[T any] interface {
	size(ahead T) int // how many of its bytes count, behind that one
	seam(ahead T) int // how many bytes stand between both, if the list is cut there
}

// total is how many bytes of a list count.
func total[T item[T]](l []T) int {
	n := 0
	var ahead T
	for _, x := range l {
		n += x.size(ahead)
		ahead = x
	}
	return n
}

// cut parts a list in two, and these again, until at most so many bytes of each piece count, or it cannot be parted into pieces with so many of the list at least.
func cut[T item[T]](l []T, most, least int) [][]T {
	switch {
	case len(l) == 0:
		return nil
	case whole(l, most, least):
		return [][]T{l}
	}
	i := middle(l, most, least)
	return append(cut(l[:i:i], most, least), cut(l[i:], most, least)...)
}

// whole tells whether a list is one piece.
func whole[T item[T]](l []T, most, least int) bool { return len(l) < 2*least || total(l) <= most }

// What a cut costs: so much for each byte that stands between both parts, since that comes to the branches above, which are on the way to all that is below; and far more than all else, if a part has no room, or is far smaller than the other one.
const (
	seamCost = 4
	badCost  = 1 << 20
)

// middle is where to cut a list in two: as evenly as can be, with few bytes between.
func middle[T item[T]](l []T, most, least int) int {
	all, best, bestCost := total(l), 0, 0
	for i := least; i <= len(l)-least; i++ {
		front := total(l[:i])
		less, more := min(front, all-front), max(front, all-front)
		cost := more - less + seamCost*l[i].seam(l[i-1])
		if more > most || 3*less < all {
			cost += badCost
		}
		if best == 0 || cost < bestCost {
			best, bestCost = i, cost
		}
	}
	return best
}

func (p pair) seam(ahead pair) int { return len(between(ahead.Key, p.Key)) }

func (k kid) seam(kid) int { return len(k.low) }

// A leaf may have one pair alone; a branch has two kids at least, however long they are, so that each height has far fewer nodes than that below.
const (
	leastPairs = 1
	leastKids  = 2
)

func (l leaf) whole(most int) bool { return whole(l, most-headSize, leastPairs) }

func (b branch) whole(most int) bool { return whole(b.kids, most-headSize, leastKids) }

func (l leaf) parts(low []byte, most int) []part {
	var out []part
	var last []byte
	for i, piece := range cut(l, most-headSize, leastPairs) {
		if i > 0 {
			low = between(last, piece[0].Key)
		}
		last = piece[len(piece)-1].Key
		out = append(out, part{low, leaf(piece)})
	}
	return out
}

func (b branch) parts(low []byte, most int) []part {
	var out []part
	for i, piece := range cut(b.kids, most-headSize, leastKids) {
		if i > 0 {
			low = piece[0].low
		}
		piece[0].low = nil
		out = append(out, part{low, branch{b.height, piece}})
	}
	return out
}

// between is what stands between two keys: the shortest beginning of the second one that is behind the first one, so that a branch has room for many.
func between(a, b []byte) []byte { return b[:min(alike(a, b), len(b)-1)+1] }
