package tree

import "sort"

// sized is one of a list that may be cut.
type sized interface{ size() int }

// total is how many bytes a list has.
func total[T sized](l []T) int {
	n := 0
	for _, x := range l {
		n += x.size()
	}
	return n
}

// cut parts a list into pieces of at most so many bytes: as few as can be, and as even.
func cut[T sized](l []T, most int) [][]T {
	out := fill(l, most)
	if len(out) < 2 {
		return out
	}
	return fill(l, sort.Search(most, func(less int) bool { return len(fill(l, less)) <= len(out) }))
}

// fill parts a list into pieces, each of which takes what it can up to so many bytes, and one of the list at least.
func fill[T sized](l []T, most int) [][]T {
	var out [][]T
	first, size := 0, 0
	for i, x := range l {
		if i > first && size+x.size() > most {
			out = append(out, l[first:i:i])
			first, size = i, 0
		}
		size += x.size()
	}
	if first < len(l) {
		out = append(out, l[first:])
	}
	return out
}

func (l leaf) parts(low []byte) []part {
	var out []part
	var last []byte
	for i, piece := range cut(l, room-headSize) {
		if i > 0 {
			low = between(last, piece[0].Key)
		}
		last = piece[len(piece)-1].Key
		out = append(out, part{low, leaf(piece)})
	}
	return out
}

func (b branch) parts(low []byte) []part {
	var out []part
	for i, piece := range cut(b.kids, room-headSize) {
		if i > 0 {
			low = piece[0].low
		}
		piece[0].low = nil
		out = append(out, part{low, branch{b.height, piece}})
	}
	return out
}

// between is what stands between two keys: the shortest beginning of the second one that is behind the first one, so that a branch has room for many.
func between(a, b []byte) []byte {
	n := 0
	for n < len(a) && n < len(b)-1 && a[n] == b[n] {
		n++
	}
	return b[:n+1]
}
