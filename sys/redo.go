package sys

import (
	"errors"
	"math"

	"bedrock/api"
	"bedrock/fs"
	"bedrock/snap"
)

// held is a node without names that was held when that was noted of which it lost the last one.
type held struct {
	tree *fs.FS
	node uint64
}

// redo does what was noted since the last commit, for whatever set: the commit that comes next begins the log anew.
func redo(s *snap.Sets) error {
	var kept []held
	for _, b := range s.Pool().Notes() {
		set, d, is := deedOf(b)
		if !is {
			continue
		}
		f, err := s.Numbered(set)
		if err != nil {
			return err
		}
		if n := d.stays(); n > 0 {
			if err := f.Hold(n); err != nil {
				return err
			}
			kept = append(kept, held{f, n})
		}
		if err := d.redo(f); err != nil {
			return err
		}
	}
	for _, x := range kept {
		if err := x.tree.Release(x.node); err != nil && !errors.Is(err, api.ErrNode) {
			return err
		}
	}
	return nil
}

// stays is the node that stays, though the deed takes its last name away; 0, if there is none.
func (d deed) stays() uint64 {
	if d.op == opRemove || d.op == opRename {
		return d.nums[len(d.nums)-1]
	}
	return 0
}

// redo does a deed again. Who may was asked when it was done first.
func (d deed) redo(f *fs.FS) error {
	f = f.Trusting()
	num := func(i int) int { return int(d.nums[i]) }
	switch d.op {
	case opMake:
		c := api.Cred{Uid: num(0), Gids: []int{num(1)}}
		_, err := f.Create(c, d.nums[4], d.texts[0], api.New{Kind: api.NodeKind(num(2)), Mode: num(3), Target: d.texts[1]})
		return err
	case opLink:
		return f.Link(api.Cred{}, d.nums[0], d.nums[1], d.texts[0])
	case opRemove:
		return f.Remove(api.Cred{}, d.nums[0], d.texts[0])
	case opRename:
		return f.Rename(api.Cred{}, d.nums[0], d.texts[0], d.nums[1], d.texts[1], num(2))
	case opWrite:
		return f.Write(api.Cred{Uid: num(0)}, d.nums[2], num(1), []byte(d.texts[0]))
	case opCut:
		return f.Cut(api.Cred{Uid: num(0)}, d.nums[2], num(1))
	case opChange:
		how := api.Set{Mode: num(0), Uid: num(1), Gid: num(2), Project: num(3), What: num(5)}
		return f.Change(api.Cred{Uid: num(4)}, d.nums[6], how)
	}
	return free(f, d.nums)
}

// free takes nodes without names away.
func free(f *fs.FS, l []uint64) error {
	for _, n := range l {
		err := f.Release(n)
		if errors.Is(err, api.ErrOrder) { // it lost its last name ahead of the commit
			if err = f.Hold(n); err == nil {
				err = f.Release(n)
			}
		}
		if err != nil {
			return err
		}
	}
	return nil
}

// deedOf is the deed that was noted, and the number of its set; false, if these bytes are no such note.
func deedOf(b []byte) (uint64, deed, bool) {
	if len(b) < 2 || b[0] != noteMark {
		return 0, deed{}, false
	}
	r := &rest{b: b[2:]}
	d := deed{op: int(b[1])}
	set := r.number()
	for range r.count() {
		d.nums = append(d.nums, r.number())
	}
	for range r.count() {
		d.texts = append(d.texts, r.text())
	}
	return set, d, !r.wrong && len(r.b) == 0 && d.whole()
}

// rest is what is still to be read of a note.
type rest struct {
	b     []byte
	wrong bool // it is none
}

func (r *rest) number() uint64 {
	var n uint64
	for shift := 0; shift < 64; shift += 7 {
		if len(r.b) == 0 {
			break
		}
		c := r.b[0]
		r.b = r.b[1:]
		n |= uint64(c&127) << shift
		if c < 128 {
			return n
		}
	}
	r.wrong = true
	return 0
}

// count is a number of which there are as many bytes at least.
func (r *rest) count() int {
	n := r.number()
	if n > uint64(len(r.b)) {
		r.wrong = true
		return 0
	}
	return int(n)
}

func (r *rest) text() string {
	n := r.count()
	s := string(r.b[:n])
	r.b = r.b[n:]
	return s
}

// whole tells whether a deed has as many numbers and texts as it needs, and no number that is none.
func (d deed) whole() bool {
	for _, n := range d.nums {
		if n > math.MaxInt {
			return false
		}
	}
	nums, texts := 0, 0
	switch d.op {
	case opMake:
		nums, texts = 5, 2
	case opLink:
		nums, texts = 2, 1
	case opRemove:
		nums, texts = 2, 1
	case opRename:
		nums, texts = 4, 2
	case opWrite:
		nums, texts = 3, 1
	case opCut:
		nums = 3
	case opChange:
		nums = 7
	case opFree:
		nums = len(d.nums)
	default:
		return false
	}
	return len(d.nums) == nums && len(d.texts) == texts
}
