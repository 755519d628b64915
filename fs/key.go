package fs

import (
	"bedrock/api"
	"bedrock/code"
)

// The first part of the tree's own keys: of the one that has the number of turns; of those of accounts, behind which stand the kind and the number of whose it is; of those of nodes without names, behind which stands the node's.
const (
	turnPart = 11 + iota
	accountPart
	namelessPart
	behindPart // all these keys are ahead of it
)

// wordSize is how many bytes a number has in a value.
const wordSize = 8

// key is the key that has these numbers.
func key(numbers ...uint64) []byte {
	var l []api.Part
	for _, n := range numbers {
		l = append(l, api.Part{Kind: api.Number, Num: n})
	}
	k, _ := code.Key(l) // it has few parts, and no texts
	return k
}

func turnKey() []byte { return key(turnPart) }

func accountKey(who owner) []byte { return key(accountPart, uint64(who.kind), uint64(who.id)) }

func namelessKey(n uint64) []byte { return key(namelessPart, n) }
