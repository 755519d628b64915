package tree

import (
	"bytes"
	"slices"

	"bedrock/api"
	"bedrock/number"
)

// node is what a block of a map has: a leaf, or a branch.
type node interface {
	above() int                                      // how many nodes it is above the leaves
	size() int                                       // how many bytes it has
	bytes() []byte                                   // these
	leads() []api.Ptr                                // the blocks that it has a use of
	parts(low []byte) []part                         // it, cut so that each part has room in a block
	alter(m *Map, key []byte, p *pair) (node, error) // it, with p for what the key had (nil: nothing)
	spots(low, from []byte) []spot                   // what it has, but for what is ahead of from
}

// part is a part of a node, and low, which none of its keys is ahead of.
type part struct {
	low  []byte
	node node
}

// leaf is a node of pairs, by their keys.
type leaf []pair

type pair api.Pair

// branch is a node of further nodes, by their keys.
type branch struct {
	height int
	kids   []kid
}

// kid leads to a node; none of its keys is ahead of low. The first one of a branch has no low of its own: it has the branch's.
type kid struct {
	low []byte
	to  api.Ptr
}

// A node has at most room bytes: few, since a change makes all nodes on its way anew. Two that have joinRoom bytes together are made one: fewer, so that it is not cut again at once.
const (
	room     = 1040
	joinRoom = 780
)

// How many bytes tell a node's height; and the bit, at a value's length, of a pair with a block.
const (
	headSize = 1
	tied     = 1 << 15
)

// anyHeight stands for all heights. It is above those that there are.
const anyHeight = 1 << 8

func (leaf) above() int     { return 0 }
func (b branch) above() int { return b.height }

func (l leaf) size() int   { return headSize + total(l) }
func (b branch) size() int { return headSize + total(b.kids) }

func (p pair) size() int {
	n := 3 + len(p.Key) + len(p.Val)
	if p.Block != (api.Ptr{}) {
		n += number.PtrSize
	}
	return n
}

func (k kid) size() int { return 1 + len(k.low) + number.PtrSize }

func (l leaf) bytes() []byte {
	b := []byte{0}
	for _, p := range l {
		n := len(p.Val)
		if p.Block != (api.Ptr{}) {
			n |= tied
		}
		b = number.Append(append(b, byte(len(p.Key))), uint64(n), 2)
		b = append(append(b, p.Key...), p.Val...)
		if p.Block != (api.Ptr{}) {
			b = number.AppendPtr(b, p.Block)
		}
	}
	return b
}

func (b branch) bytes() []byte {
	out := []byte{byte(b.height)}
	for _, k := range b.kids {
		out = append(append(out, byte(len(k.low))), k.low...)
		out = number.AppendPtr(out, k.to)
	}
	return out
}

func (l leaf) leads() []api.Ptr {
	var out []api.Ptr
	for _, p := range l {
		if p.Block != (api.Ptr{}) {
			out = append(out, p.Block)
		}
	}
	return out
}

func (b branch) leads() []api.Ptr {
	var out []api.Ptr
	for _, k := range b.kids {
		out = append(out, k.to)
	}
	return out
}

// find is where a key is, or would be, and whether it is there.
func (l leaf) find(key []byte) (int, bool) {
	return slices.BinarySearchFunc(l, key, func(p pair, key []byte) int { return bytes.Compare(p.Key, key) })
}

// find is which of the kids has a key, if one has.
func (b branch) find(key []byte) int {
	i, there := slices.BinarySearchFunc(b.kids[1:], key, func(k kid, key []byte) int { return bytes.Compare(k.low, key) })
	if there {
		i++
	}
	return i
}
