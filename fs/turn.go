package fs

import (
	"cmp"
	"maps"
	"slices"

	"bedrock/api"
	"bedrock/number"
)

// turn is a change of the tree that goes on.
type turn struct {
	*FS
	number uint64              // of what is saved
	counts map[owner]api.Quota // how many nodes and pages more are whose
}

// change lets do change the tree, and then accounts for it: all of that is done, or, with an error, nothing.
func (f *FS) change(do func(t *turn) error) error {
	return f.table.Try(func() error {
		n, err := f.turns()
		if err != nil {
			return err
		}
		t := &turn{f, n, map[owner]api.Quota{}}
		if err := do(t); err != nil {
			return err
		}
		if err := t.settle(); err != nil {
			return err
		}
		f.know(t.number)
		return nil
	})
}

// turn is a change that has a number.
func (f *FS) turn(do func(t *turn) error) error {
	return f.change(func(t *turn) error {
		t.number++
		if err := do(t); err != nil {
			return err
		}
		return f.table.Put(turnKey(), number.Append(nil, t.number, wordSize))
	})
}

// know: there were so many turns, until the Try that goes on is undone. What was known first is of the root that the map has then again.
func (f *FS) know(turns uint64) {
	if was := f.known; was != (known{}) {
		f.table.Pool().OnUndo(func() { f.known = was })
	}
	f.known = known{f.table.Root(), turns}
}

// count notes that a node, with its pages, is there once more (by 1), or once less (by -1).
func (t *turn) count(a api.Attr, by int) {
	for _, who := range []owner{{user, a.Uid}, {project, a.Project}} {
		if who == (owner{project, 0}) {
			continue // that is none
		}
		q := t.counts[who]
		q.Nodes += by
		q.Pages += by * a.Pages
		t.counts[who] = q
	}
}

// settle brings what was counted to the accounts, in an order: in which blocks they come to lie must not hang on the map's.
func (t *turn) settle() error {
	byNumber := func(a, b owner) int { return cmp.Or(cmp.Compare(a.kind, b.kind), cmp.Compare(a.id, b.id)) }
	for _, who := range slices.SortedFunc(maps.Keys(t.counts), byNumber) {
		if err := t.book(who, t.counts[who]); err != nil {
			return err
		}
	}
	return nil
}

// save gives a node what x tells, as of this turn.
func (t *turn) save(x item) error {
	x.Turn = t.number
	return t.table.SetAttr(x.number, x.Attr)
}

// lose takes a name from a node. Without names it is there no more, unless it is held.
func (t *turn) lose(x item) error {
	x.Links--
	switch {
	case x.Links > 0:
		return t.save(x)
	case t.held[x.number] == 0:
		return t.free(x)
	}
	if err := t.table.Put(namelessKey(x.number), nil); err != nil {
		return err
	}
	return t.save(x)
}

// free takes a node away.
func (t *turn) free(x item) error {
	t.count(x.Attr, -1)
	return t.table.Free(x.number)
}
