package snap

import (
	"bedrock/api"
	"bedrock/code"
	"bedrock/number"
)

// The first part of the book's keys: of those of sets, behind which stands the name; of those of snapshots, behind which stand the set's number and the snapshot's, so that they are in the order in which they were made.
const (
	setPart = 1 + iota
	shotPart
	endPart // all keys are ahead of it
)

// How many bytes the values have: numbers; flags; all of a set's; those of a snapshot's ahead of its name.
const (
	wordSize = 8
	flagSize = 1
	setSize  = wordSize + number.PtrSize + flagSize + 2*wordSize + number.PtrSize
	shotSize = number.PtrSize + flagSize + 2*wordSize
)

// set is what the book has of a set.
type set struct {
	name   string
	number uint64
	root   api.Ptr // its tree's; of a tree that was taken up: what it was at the last commit
	ripe   bool    // its tree has to be reaped ahead of all that is seen of it
	start  start
}

// start is the snapshot that a tree became last, by Rollback or by a stream (0: none), the number that was given last by then, and the root that the tree had when it was reaped.
type start struct {
	shot, when uint64
	root       api.Ptr
}

// shot is what the book has of a snapshot.
type shot struct {
	set, number uint64
	name        string
	root        api.Ptr
	ripe        bool // as of a set
	origin      Origin
}

// stands tells whether a set's tree, which has that root now, is still what the snapshot y of it is: nothing was done with it since y was made, or since it became y.
func (x set) stands(y shot, root api.Ptr) bool {
	if y.number > x.start.when {
		return root == y.root
	}
	return y.number == x.start.shot && root == x.start.root
}

func key(parts ...api.Part) []byte {
	k, _ := code.Key(parts) // they are few, and names are short
	return k
}

func num(n uint64) api.Part { return api.Part{Kind: api.Number, Num: n} }

func setKey(name string) []byte {
	return key(num(setPart), api.Part{Kind: api.Text, Text: name})
}

func shotKey(set, number uint64) []byte { return key(num(shotPart), num(set), num(number)) }

// set is the set of a name, which is Good.
func (s *Sets) set(name string) (set, error) {
	b, err := s.book.Get(setKey(name))
	if err != nil {
		return set{}, err
	}
	return setOf(name, b)
}

// sets is all sets, by their names.
func (s *Sets) sets() ([]set, error) {
	var l []set
	for p, err := range s.book.Scan(key(num(setPart)), key(num(shotPart))) {
		if err != nil {
			return nil, err
		}
		parts, err := code.Parts(p.Key)
		if err != nil || len(parts) != 2 {
			return nil, api.ErrSpoilt
		}
		x, err := setOf(parts[1].Text, p.Val)
		if err != nil {
			return nil, err
		}
		l = append(l, x)
	}
	return l, nil
}

// save lays a set into the book.
func (s *Sets) save(x set) error {
	b := number.Append(nil, x.number, wordSize)
	b = number.AppendPtr(b, x.root)
	b = appendFlag(b, x.ripe)
	b = number.Append(b, x.start.shot, wordSize)
	b = number.Append(b, x.start.when, wordSize)
	return s.book.Put(setKey(x.name), number.AppendPtr(b, x.start.root))
}

// appendFlag lays a byte behind b that tells whether something is so.
func appendFlag(b []byte, is bool) []byte {
	if is {
		return append(b, 1)
	}
	return append(b, 0)
}

func setOf(name string, b []byte) (set, error) {
	if len(b) != setSize {
		return set{}, api.ErrSpoilt
	}
	l := line(b)
	x := set{name: name, number: l.word(), root: l.ptr(), ripe: l.flag()}
	x.start = start{l.word(), l.word(), l.ptr()}
	return x, nil
}

// line is what is still to be read of a value, which is long enough.
type line []byte

func (l *line) next(n int) []byte {
	b := (*l)[:n]
	*l = (*l)[n:]
	return b
}

func (l *line) word() uint64 { return number.Of(l.next(wordSize)) }

func (l *line) ptr() api.Ptr { return number.PtrOf(l.next(number.PtrSize)) }

func (l *line) flag() bool { return l.next(flagSize)[0] > 0 }

// shots is the snapshots of a set, in the order in which they were made.
func (s *Sets) shots(x set) ([]shot, error) {
	return s.shotsFrom(shotKey(x.number, 0), shotKey(x.number+1, 0))
}

// allShots is the snapshots of all sets.
func (s *Sets) allShots() ([]shot, error) {
	return s.shotsFrom(key(num(shotPart)), key(num(endPart)))
}

// shotsFrom is the snapshots whose keys are not ahead of from, and ahead of to.
func (s *Sets) shotsFrom(from, to []byte) ([]shot, error) {
	var l []shot
	for p, err := range s.book.Scan(from, to) {
		if err != nil {
			return nil, err
		}
		y, err := shotOf(p)
		if err != nil {
			return nil, err
		}
		l = append(l, y)
	}
	return l, nil
}

// enter lays a snapshot into the book.
func (s *Sets) enter(y shot) error {
	b := appendFlag(number.AppendPtr(nil, y.root), y.ripe)
	b = number.Append(b, y.origin.Pool, wordSize)
	b = number.Append(b, y.origin.Number, wordSize)
	return s.book.Put(shotKey(y.set, y.number), append(b, y.name...))
}

func shotOf(p api.Pair) (shot, error) {
	parts, err := code.Parts(p.Key)
	if err != nil || len(parts) != 3 || len(p.Val) < shotSize {
		return shot{}, api.ErrSpoilt
	}
	l := line(p.Val)
	y := shot{set: parts[1].Num, number: parts[2].Num, root: l.ptr(), ripe: l.flag()}
	y.origin = Origin{l.word(), l.word()}
	y.name = string(l)
	return y, nil
}
