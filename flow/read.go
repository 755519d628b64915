package flow

import (
	"errors"

	"bedrock/api"
	"bedrock/node"
	"bedrock/number"
	"bedrock/snap"
	"bedrock/sum"
	"bedrock/tree"
)

// stream is what a stream tells.
type stream struct {
	origin, base snap.Origin // without a base it is of all
	changes      []change
}

// read takes a stream apart. What is none gives up by a panic, wherever that is found.
func read(b []byte) (x stream, err error) {
	defer func() {
		switch p := recover(); p {
		case nil:
		case api.ErrStream:
			x, err = stream{}, api.ErrStream
		default:
			panic(p)
		}
	}()
	r := open(b)
	x.origin, x.base = r.origin(), r.origin()
	for len(r.b) > 0 {
		x.changes = append(x.changes, r.change())
	}
	return x, nil
}

// reader is what is still to be read of a stream.
type reader struct{ b []byte }

// open is what a stream has between its size and its sum, which are as they should be.
func open(b []byte) *reader {
	r := &reader{b}
	insist(len(b) <= api.MaxStream)
	insist(string(r.next(len(mark))) == mark)
	insist(r.number(sizeSize) == uint64(len(b)))
	inner := r.next(len(r.b) - sumSize)
	insist(r.number(sumSize) == uint64(sum.Sum(b[:len(b)-sumSize])))
	return &reader{inner}
}

// insist gives up, if something is not so.
func insist(is bool) {
	if !is {
		panic(api.ErrStream)
	}
}

// next is the next n bytes; where there are too few, it gives up.
func (r *reader) next(n int) []byte {
	insist(n >= 0 && n <= len(r.b))
	out := r.b[:n:n]
	r.b = r.b[n:]
	return out
}

func (r *reader) number(size int) uint64 { return number.Of(r.next(size)) }

func (r *reader) origin() snap.Origin {
	return snap.Origin{Pool: r.number(wordSize), Number: r.number(wordSize)}
}

func (r *reader) change() change {
	c := change{kind: r.next(1)[0]}
	switch c.kind {
	case putPair:
		key, val := int(r.number(keySize)), int(r.number(valSize))
		c.key, c.val = r.next(key), r.next(val)
	case delPair:
		c.key = r.next(int(r.number(keySize)))
	case putPages:
		c.patch = r.patch()
		c.patch.Bytes = r.next(c.patch.Pages * api.PageSize)
	case delPages:
		c.patch = r.patch()
	default:
		insist(false)
	}
	insist(c.good())
	return c
}

func (r *reader) patch() node.Patch {
	return node.Patch{Node: r.number(wordSize), Page: int(r.number(pageSize)), Pages: int(r.number(countSize))}
}

// fill lets a map, which is what the stream stands on, become what was sent.
func (x stream) fill(m *tree.Map) error {
	t := node.On(m)
	for _, c := range x.changes {
		if err := c.apply(t); err != nil {
			return err
		}
	}
	return nil
}

func (c change) apply(t *node.Table) error {
	switch c.kind {
	case putPair:
		return t.Put(c.key, c.val)
	case delPair:
		err := t.Del(c.key)
		if errors.Is(err, api.ErrMissing) {
			return api.ErrStream // nothing goes away that is not there
		}
		return err
	}
	return t.Apply(c.patch)
}
