package flow

import (
	"bedrock/api"
	"bedrock/node"
)

// A stream begins with a mark, and with how many bytes it has; it ends with the sum of all bytes ahead of that.
const (
	mark     = "bdrkflow"
	sizeSize = 4
	sumSize  = 4
)

// How many bytes the numbers of a stream have: those of pools, snapshots and nodes; of pages; how many pages there are; the lengths of keys and values.
const (
	wordSize  = 8
	pageSize  = 5
	countSize = 1
	keySize   = 1
	valSize   = 2
)

// The kinds of changes.
const (
	putPair  = 1 + iota // a key has a value
	delPair             // a key is there no more
	putPages            // pages have bytes
	delPages            // pages are holes
)

// change is one of the changes of which a stream is made.
type change struct {
	kind     byte
	key, val []byte     // of a pair
	patch    node.Patch // of pages
}

// good tells whether Send might have told such a change.
func (c change) good() bool {
	switch c.kind {
	case putPages, delPages:
		return c.patch.Good()
	}
	// Pairs that lead to pages are told by what these are.
	return len(c.key) > 0 && len(c.key) <= api.MaxKey && len(c.val) <= api.MaxVal && !node.OfPage(c.key)
}
