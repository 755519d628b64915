package tree

import (
	"bytes"
	"slices"

	"bedrock/api"
	"bedrock/number"
)

// node is what a block of a map has: a leaf, or a branch.
type node interface {
	above() int                                      // how many nodes it is above the leaves
	size() int                                       // how many of its bytes count
	bytes() []byte                                   // what its block has
	leads() []api.Ptr                                // the blocks that it has a use of
	whole(most int) bool                             // whether it need not be cut, or cannot be, for at most so many bytes to count
	parts(low []byte, most int) []part               // it, cut so that at most so many bytes of each part count
	alter(m *Map, key []byte, p *pair) (node, error) // it, with p for what the key had (nil: nothing)
	spots(low, from []byte) []spot                   // what it has, but for what is ahead of from
}

// part is a part of a node, and low, which none of its keys is ahead of.
type part struct {
	low  []byte
	node node
}

// leaf is a node of pairs, by their keys.
type leaf []pair

type pair api.Pair

// branch is a node of further nodes, by their keys.
type branch struct {
	height int
	kids   []kid
}

// kid leads to a node; none of its keys is ahead of low. The first one of a branch has no low of its own: it has the branch's.
type kid struct {
	low []byte
	to  api.Ptr
}

// How many bytes tell a node's height, and the place of a block; and the bit, at a value's length, of a pair with a block. The place is enough to find a block: while it is in use no other one begins there.
const (
	headSize  = 1
	placeSize = 4
	tied      = 1 << 15
)

// anyHeight stands for all heights. It is above those that there are.
const anyHeight = 1 << 8

func (leaf) above() int     { return 0 }
func (b branch) above() int { return b.height }

func (l leaf) size() int   { return headSize + total(l) }
func (b branch) size() int { return headSize + total(b.kids) }

func (p pair) size(pair) int {
	n := 3 + len(p.Key) + len(p.Val)
	if p.Block != (api.Ptr{}) {
		n += placeSize
	}
	return n
}

// size leaves out what the low has in common with the one ahead of it. Of the first kid that has a low it counts nothing: where many keys begin alike each branch must have that beginning once, and be no smaller for it.
func (k kid) size(ahead kid) int {
	if ahead.low == nil {
		return 2 + placeSize
	}
	return 2 + len(k.low) - alike(ahead.low, k.low) + placeSize
}

func (l leaf) bytes() []byte {
	b := []byte{0}
	for _, p := range l {
		n := len(p.Val)
		if p.Block != (api.Ptr{}) {
			n |= tied
		}
		b = number.Append(append(b, byte(len(p.Key))), uint64(n), 2)
		b = append(append(b, p.Key...), p.Val...)
		if p.Block != (api.Ptr{}) {
			b = appendPlace(b, p.Block)
		}
	}
	return b
}

func (b branch) bytes() []byte {
	out := appendPlace([]byte{byte(b.height)}, b.kids[0].to)
	var ahead []byte
	for _, k := range b.kids[1:] {
		n := alike(ahead, k.low)
		out = append(out, byte(n), byte(len(k.low)-n))
		out = appendPlace(append(out, k.low[n:]...), k.to)
		ahead = k.low
	}
	return out
}

func appendPlace(b []byte, x api.Ptr) []byte { return number.Append(b, uint64(x.At), placeSize) }

// alike is how many bytes two keys have in common at their beginning.
func alike(a, b []byte) int {
	n := 0
	for n < len(a) && n < len(b) && a[n] == b[n] {
		n++
	}
	return n
}

func (l leaf) leads() []api.Ptr {
	var out []api.Ptr
	for _, p := range l {
		if p.Block != (api.Ptr{}) {
			out = append(out, p.Block)
		}
	}
	return out
}

func (b branch) leads() []api.Ptr {
	var out []api.Ptr
	for _, k := range b.kids {
		out = append(out, k.to)
	}
	return out
}

// find is where a key is, or would be, and whether it is there.
func (l leaf) find(key []byte) (int, bool) {
	return slices.BinarySearchFunc(l, key, func(p pair, key []byte) int { return bytes.Compare(p.Key, key) })
}

// find is which of the kids has a key, if one has.
func (b branch) find(key []byte) int {
	i, there := slices.BinarySearchFunc(b.kids[1:], key, func(k kid, key []byte) int { return bytes.Compare(k.low, key) })
	if there {
		i++
	}
	return i
}
