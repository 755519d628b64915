package node

import (
	"math"

	"bedrock/api"
	"bedrock/code"
)

// The first part of a table's keys: of the one that has the last number that was given, and of those of the nodes. A node's own key has its number behind that; its pages' keys have a page's number behind both, those of its further attributes a name: so all that it has lies together.
const (
	lastPart = iota
	nodePart
	endPart // all keys of the table are ahead of it
)

// none is the kind of the part that is not there.
const none api.PartKind = 0

// key is the key that has these parts. They are good: of names that is known ahead.
func key(parts ...api.Part) []byte {
	k, _ := code.Key(parts)
	return k
}

func num(n uint64) api.Part { return api.Part{Kind: api.Number, Num: n} }

func text(s string) api.Part { return api.Part{Kind: api.Text, Text: s} }

func lastKey() []byte { return key(num(lastPart)) }

func firstKey() []byte { return key(num(nodePart)) }

func endKey() []byte { return key(num(endPart)) }

func nodeKey(n uint64) []byte { return key(num(nodePart), num(n)) }

func pageKey(n uint64, page int) []byte { return key(num(nodePart), num(n), num(uint64(page))) }

func nameKey(n uint64, name string) []byte { return key(num(nodePart), num(n), text(name)) }

// behind is what all that a node has is ahead of.
func behind(n uint64) []byte {
	if n == math.MaxUint64 {
		return endKey()
	}
	return nodeKey(n + 1)
}

// apart takes a node's key apart: whose it is, and what stands behind that; it tells whether it is one. (A map may have keys of others, which are made in another way.)
func apart(k []byte) (n uint64, more api.Part, ours bool) {
	l, err := code.Parts(k)
	if err != nil || len(l) < 2 || len(l) > 3 || l[0] != num(nodePart) || l[1].Kind != api.Number {
		return 0, api.Part{}, false
	}
	if len(l) == 3 {
		more = l[2]
	}
	return l[1].Num, more, true
}

// OfPage tells whether a key is of pages: its value leads to a block in which they lie.
func OfPage(key []byte) bool {
	_, is := pageOf(key)
	return is
}

// pageOf is which page of which node a key is of; it tells whether it is of one.
func pageOf(k []byte) (api.Page, bool) {
	n, more, ours := apart(k)
	if !ours || more.Kind != api.Number || more.Num >= mostPages {
		return api.Page{}, false
	}
	return api.Page{Node: n, Page: int(more.Num)}, true
}
