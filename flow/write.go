package flow

import (
	"bedrock/api"
	"bedrock/node"
	"bedrock/number"
	"bedrock/snap"
	"bedrock/sum"
	"bedrock/tree"
)

// writer is a stream that is being made.
type writer struct{ b []byte }

// write is the stream of what is other in one map than in another.
func write(base, origin snap.Origin, old, now *tree.Map) ([]byte, error) {
	w := &writer{[]byte(mark)}
	w.number(0, sizeSize) // how many bytes there are is not known yet
	w.origin(origin)
	w.origin(base)
	if err := w.pairs(old, now); err != nil {
		return nil, err
	}
	if err := w.pages(old, now); err != nil {
		return nil, err
	}
	size := len(w.b) + sumSize
	number.Put(w.b[len(mark):len(mark)+sizeSize], uint64(size))
	w.number(uint64(sum.Sum(w.b)), sumSize)
	return w.b, nil
}

func (w *writer) number(n uint64, size int) { w.b = number.Append(w.b, n, size) }

func (w *writer) origin(o snap.Origin) {
	w.number(o.Pool, wordSize)
	w.number(o.Number, wordSize)
}

// pairs tells what became of the pairs, but for those that lead to pages.
func (w *writer) pairs(old, now *tree.Map) error {
	for c, err := range tree.Diff(old, now) {
		if err != nil {
			return err
		}
		if node.OfPage(c.Key) {
			continue
		}
		kind := byte(delPair)
		if c.Has {
			kind = putPair
		}
		if err := w.change(change{kind: kind, key: c.Key, val: c.New}); err != nil {
			return err
		}
	}
	return nil
}

// pages tells what became of the pages.
func (w *writer) pages(old, now *tree.Map) error {
	for p, err := range node.Patches(node.On(old), node.On(now)) {
		if err != nil {
			return err
		}
		kind := byte(putPages)
		if len(p.Bytes) == 0 {
			kind = delPages
		}
		if err := w.change(change{kind: kind, patch: p}); err != nil {
			return err
		}
	}
	return nil
}

// change tells a change, as long as there is room.
func (w *writer) change(c change) error {
	w.number(uint64(c.kind), 1)
	switch c.kind {
	case putPair:
		w.number(uint64(len(c.key)), keySize)
		w.number(uint64(len(c.val)), valSize)
	case delPair:
		w.number(uint64(len(c.key)), keySize)
	default:
		w.number(c.patch.Node, wordSize)
		w.number(uint64(c.patch.Page), pageSize)
		w.number(uint64(c.patch.Pages), countSize)
	}
	w.b = append(append(append(w.b, c.key...), c.val...), c.patch.Bytes...)
	if len(w.b) > api.MaxStream-sumSize {
		return api.ErrLong
	}
	return nil
}
