package dir

import (
	"math"

	"bedrock/api"
	"bedrock/code"
	"bedrock/number"
)

// dirPart is the first part of all keys of entries; behind it stand the directory's number and the one name.
const dirPart = 10

// wordSize is how many bytes an entry's node and kind have.
const wordSize = 8

func num(n uint64) api.Part { return api.Part{Kind: api.Number, Num: n} }

func text(s string) api.Part { return api.Part{Kind: api.Text, Text: s} }

// key is the key of an entry. Its parts are good: of names that is known ahead.
func key(d uint64, name string) []byte {
	k, _ := code.Key([]api.Part{num(dirPart), num(d), text(name)})
	return k
}

// end is what all entries of a directory are ahead of.
func end(d uint64) []byte {
	parts := []api.Part{num(dirPart), num(d + 1)}
	if d == math.MaxUint64 {
		parts = []api.Part{num(dirPart + 1)}
	}
	k, _ := code.Key(parts)
	return k
}

// nameOf is the one name that the key of an entry has, of those from key(d, "") to end(d); it tells whether it is one.
func nameOf(k []byte) (string, bool) {
	l, err := code.Parts(k)
	if err != nil || len(l) != 3 {
		return "", false
	}
	return l[2].Text, true
}

// bytesOf is what the map has of an entry, beside the name in its key: the name that it was entered with is left out if it is that one.
func bytesOf(e api.Entry, name string) []byte {
	b := number.Append(nil, e.Node<<2|uint64(e.Kind), wordSize)
	if e.Name != name {
		b = append(b, e.Name...)
	}
	return b
}

// entryOf is the entry of which the map has these bytes, by that name in its key. Others were not put there as an entry.
func entryOf(name string, b []byte) (api.Entry, error) {
	if len(b) < wordSize {
		return api.Entry{}, api.ErrSpoilt
	}
	word := number.Of(b[:wordSize])
	if len(b) > wordSize {
		name = string(b[wordSize:])
	}
	e := api.Entry{Name: name, Node: word >> 2, Kind: api.NodeKind(word & 3)}
	if !Good(e.Name) || !stands(e) {
		return api.Entry{}, api.ErrSpoilt
	}
	return e, nil
}
