package sys

import (
	"errors"

	"bedrock/api"
)

// A note begins with this byte: all others are not of a system.
const noteMark = 0xB5

// What a deed is.
const (
	opMake = 1 + iota
	opLink
	opRemove
	opRename
	opWrite
	opCut
	opChange
	opFree
)

// deed is a change of the tree, as it is noted: what it is, and the numbers and texts by which it can be done again.
type deed struct {
	op    int
	nums  []uint64
	texts []string
}

func numbers(l ...int) []uint64 {
	var out []uint64
	for _, n := range l {
		out = append(out, uint64(n))
	}
	return out
}

func newDeed(c api.Cred, at spot, what api.New) deed {
	gid := 0
	if len(c.Gids) > 0 {
		gid = c.Gids[0]
	}
	return deed{opMake, append(numbers(c.Uid, gid, int(what.Kind), what.Mode), at.dir), []string{at.name, what.Target}}
}

func linkDeed(n uint64, at spot) deed {
	return deed{opLink, []uint64{n, at.dir}, []string{at.name}}
}

func removeDeed(at spot, stays uint64) deed {
	return deed{opRemove, []uint64{at.dir, stays}, []string{at.name}}
}

func renameDeed(at, to spot, how int, stays uint64) deed {
	return deed{opRename, []uint64{at.dir, to.dir, uint64(how), stays}, []string{at.name, to.name}}
}

func writeDeed(c api.Cred, n uint64, at int, b []byte) deed {
	return deed{opWrite, append(numbers(c.Uid, at), n), []string{string(b)}}
}

func cutDeed(c api.Cred, n uint64, size int) deed {
	return deed{opCut, append(numbers(c.Uid, size), n), nil}
}

// changeDeed has 0 for what is not asked to be changed: that may be any number.
func changeDeed(c api.Cred, n uint64, how api.Set) deed {
	l := []int{how.Mode, how.Uid, how.Gid, how.Project}
	for bit := range l {
		if how.What>>bit&1 == 0 {
			l[bit] = 0
		}
	}
	return deed{opChange, append(numbers(append(l, c.Uid, how.What)...), n), nil}
}

// bytes is the note of a deed in the tree of a set.
func (d deed) bytes(set uint64) []byte {
	b := []byte{noteMark, byte(d.op)}
	b = appendNumber(b, set)
	b = appendNumber(b, uint64(len(d.nums)))
	for _, n := range d.nums {
		b = appendNumber(b, n)
	}
	b = appendNumber(b, uint64(len(d.texts)))
	for _, s := range d.texts {
		b = append(appendNumber(b, uint64(len(s))), s...)
	}
	return b
}

// appendNumber lays a number behind b, seven bits to a byte, the lowest ones first; all bytes but the last one are above 127.
func appendNumber(b []byte, n uint64) []byte {
	for n > 127 {
		b = append(b, byte(n)|128)
		n >>= 7
	}
	return append(b, byte(n))
}

// look: behind a commit all is noted, since there is nothing to note; and what somebody else did with the tree is not.
func (y *Sys) look() {
	life, root := y.pool().Life(), y.tree.Map().Root()
	if life != y.life {
		y.loose = false
	} else if root != y.root {
		y.loose = true
	}
	y.life, y.root = life, root
}

// change lets do change the tree, all of it or, with an error, nothing; what it did is noted.
func (y *Sys) change(do func() (deed, error)) error {
	y.look()
	var d deed
	err := y.pool().Try(func() error {
		var err error
		d, err = do()
		return err
	})
	now := y.tree.Map().Root()
	if err != nil || now == y.root {
		return err
	}
	y.root = now
	return y.note(d)
}

// note notes a deed, if there is room, and no other one was left out. Within a Try it is not: a note cannot be undone.
func (y *Sys) note(d deed) error {
	if y.loose || y.pool().Trying() {
		y.loose = true
		return nil
	}
	err := y.pool().Note(d.bytes(y.set))
	if errors.Is(err, api.ErrFull) || errors.Is(err, api.ErrLong) {
		y.loose = true
		return nil
	}
	return err
}
