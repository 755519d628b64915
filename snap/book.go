package snap

import (
	"bedrock/api"
	"bedrock/code"
	"bedrock/number"
)

// The first part of the book's keys: of those of sets, behind which stands the name; of those of snapshots, behind which stand the set's number and the snapshot's, so that they are in the order in which they were made.
const (
	setPart = 1 + iota
	shotPart
)

// How many bytes the values have: numbers; all of a set's; those of a snapshot's ahead of its name.
const (
	wordSize = 8
	setSize  = wordSize + number.PtrSize + 1
	shotSize = number.PtrSize
)

// set is what the book has of a set.
type set struct {
	name   string
	number uint64
	root   api.Ptr // its tree's; of a tree that was taken up: what it was at the last commit
	ripe   bool    // its tree has to be reaped ahead of all that is done with it
}

// shot is what the book has of a snapshot.
type shot struct {
	set, number uint64
	name        string
	root        api.Ptr
}

func key(parts ...api.Part) []byte {
	k, _ := code.Key(parts) // they are few, and names are short
	return k
}

func num(n uint64) api.Part { return api.Part{Kind: api.Number, Num: n} }

func setKey(name string) []byte {
	return key(num(setPart), api.Part{Kind: api.Text, Text: name})
}

func shotKey(set, number uint64) []byte { return key(num(shotPart), num(set), num(number)) }

// set is the set of a name, which is Good.
func (s *Sets) set(name string) (set, error) {
	b, err := s.book.Get(setKey(name))
	if err != nil {
		return set{}, err
	}
	return setOf(name, b)
}

// sets is all sets, by their names.
func (s *Sets) sets() ([]set, error) {
	var l []set
	for p, err := range s.book.Scan(key(num(setPart)), key(num(shotPart))) {
		if err != nil {
			return nil, err
		}
		parts, err := code.Parts(p.Key)
		if err != nil || len(parts) != 2 {
			return nil, api.ErrSpoilt
		}
		x, err := setOf(parts[1].Text, p.Val)
		if err != nil {
			return nil, err
		}
		l = append(l, x)
	}
	return l, nil
}

// save lays a set into the book.
func (s *Sets) save(x set) error {
	b := number.Append(nil, x.number, wordSize)
	b = number.AppendPtr(b, x.root)
	if x.ripe {
		b = append(b, 1)
	} else {
		b = append(b, 0)
	}
	return s.book.Put(setKey(x.name), b)
}

func setOf(name string, b []byte) (set, error) {
	if len(b) != setSize {
		return set{}, api.ErrSpoilt
	}
	root := number.PtrOf(b[wordSize : wordSize+number.PtrSize])
	return set{name, number.Of(b[:wordSize]), root, b[setSize-1] > 0}, nil
}

// shots is the snapshots of a set, in the order in which they were made.
func (s *Sets) shots(x set) ([]shot, error) {
	var l []shot
	for p, err := range s.book.Scan(shotKey(x.number, 0), shotKey(x.number+1, 0)) {
		if err != nil {
			return nil, err
		}
		parts, err := code.Parts(p.Key)
		if err != nil || len(parts) != 3 || len(p.Val) < shotSize {
			return nil, api.ErrSpoilt
		}
		name, root := string(p.Val[shotSize:]), number.PtrOf(p.Val[:shotSize])
		l = append(l, shot{x.number, parts[2].Num, name, root})
	}
	return l, nil
}

// enter lays a snapshot into the book.
func (s *Sets) enter(y shot) error {
	b := number.AppendPtr(nil, y.root)
	return s.book.Put(shotKey(y.set, y.number), append(b, y.name...))
}
