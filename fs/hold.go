package fs

import (
	"bedrock/api"
	"bedrock/code"
)

// Hold lets a node be held once more.
func (f *FS) Hold(n uint64) error {
	if _, err := f.item(n); err != nil {
		return err
	}
	f.hold(n, 1)
	return nil
}

// Held tells how many nodes are held.
func (f *FS) Held() int { return len(f.held) }

// hold counts how often a node is held, until the Try that goes on is undone: else one that came by it, and is gone then, would be held for ever, and so would the next one of its number.
func (f *FS) hold(n uint64, by int) {
	f.table.Pool().OnUndo(func() { f.tally(n, -by) })
	f.tally(n, by)
}

func (f *FS) tally(n uint64, by int) {
	f.held[n] += by
	if f.held[n] == 0 {
		delete(f.held, n)
	}
}

// Release lets a node be held once less.
func (f *FS) Release(n uint64) error {
	x, err := f.item(n)
	switch {
	case err != nil:
		return err
	case f.held[n] == 0:
		return api.ErrOrder
	}
	if f.fixed || f.held[n] > 1 || x.Links > 0 {
		f.hold(n, -1)
		return nil
	}
	return f.change(func(t *turn) error {
		f.hold(n, -1)
		return t.reap(x)
	})
}

// Reap takes all nodes away that have no names and are not held.
func (f *FS) Reap() error {
	if f.fixed {
		return api.ErrReadOnly
	}
	l, err := f.nameless()
	if err != nil {
		return err
	}
	return f.change(func(t *turn) error {
		for _, x := range l {
			if err := t.reap(x); err != nil {
				return err
			}
		}
		return nil
	})
}

// Ripe tells whether there are nodes that a Reap would take away.
func (f *FS) Ripe() (bool, error) {
	l, err := f.nameless()
	return len(l) > 0, err
}

// nameless is the nodes that have no names and are not held.
func (f *FS) nameless() ([]item, error) {
	var l []item
	for p, err := range f.table.Scan(key(namelessPart), key(behindPart)) {
		if err != nil {
			return nil, err
		}
		parts, err := code.Parts(p.Key)
		if err != nil || len(parts) != 2 {
			return nil, api.ErrSpoilt
		}
		n := parts[1].Num
		if f.held[n] > 0 {
			continue
		}
		x, err := f.item(n)
		if err != nil {
			return nil, err
		}
		l = append(l, x)
	}
	return l, nil
}

// reap takes a node without names away.
func (t *turn) reap(x item) error {
	if err := t.table.Del(namelessKey(x.number)); err != nil {
		return err
	}
	return t.free(x)
}
