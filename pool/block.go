package pool

import (
	"slices"

	"bedrock/api"
)

// The tag of a block's rows has its stamp, and its length in the lowest bits; none is ownTag, that of the rows of the pool's notes on its blocks.
const (
	lenBits = 13
	ownTag  = 0
)

// stampsOfAge is how many stamps an age has: few enough that a tag has room for as many ages as there can be.
const stampsOfAge = 1 << 20

// Put makes a block of b.
func (p *Pool) Put(b []byte) (api.Ptr, error) {
	n := p.rowsOf(len(b))
	switch {
	case p.down:
		return api.Ptr{}, api.ErrDown
	case len(b) > api.MaxBlock:
		return api.Ptr{}, api.ErrLong
	case !p.spare(n):
		return api.Ptr{}, api.ErrRoom
	}
	stamp, err := p.stamp()
	if err != nil {
		return api.Ptr{}, p.fail(err)
	}
	at, err := p.space.Take(n, stamp<<lenBits|uint64(len(b)))
	if err != nil {
		return api.Ptr{}, err
	}
	x := api.Ptr{At: api.OwnRows + at, Len: len(b), Stamp: stamp}
	p.blocks++
	p.waiting[x] = slices.Clone(b)
	p.record(step{x: x, put: true})
	return x, nil
}

// Get tells a block's bytes.
func (p *Pool) Get(x api.Ptr) ([]byte, error) {
	r, err := p.block(x)
	if err != nil {
		return nil, err
	}
	if b, ok := p.waiting[x]; ok {
		return slices.Clone(b), nil
	}
	b, err := p.vol.Read(x.At, r.N, x.Stamp)
	if err != nil {
		return nil, p.fail(err)
	}
	return b[:x.Len], nil
}

// Lead tells what leads to the block whose first row is at: ErrBlock, if none begins there that is in use.
func (p *Pool) Lead(at int) (api.Ptr, error) {
	r, err := p.space.Find(at - api.OwnRows)
	switch {
	case p.down:
		return api.Ptr{}, api.ErrDown
	case err != nil || r.Tag == ownTag:
		return api.Ptr{}, api.ErrBlock
	}
	return pointer(r), nil
}

// Share counts one more use of a block.
func (p *Pool) Share(x api.Ptr) error {
	r, err := p.block(x)
	if err != nil {
		return err
	}
	return p.space.Share(r.At)
}

// Uses tells how often a block is in use.
func (p *Pool) Uses(x api.Ptr) int {
	r, err := p.block(x)
	if err != nil {
		return 0
	}
	return r.Count
}

// Drop counts one use less of a block.
func (p *Pool) Drop(x api.Ptr) error {
	r, err := p.block(x)
	if err != nil {
		return err
	}
	if err := p.space.Drop(r.At); err != nil {
		return err
	}
	if r.Count > 1 {
		return nil
	}
	p.blocks--
	if b, ok := p.waiting[x]; ok {
		delete(p.waiting, x)
		p.record(step{x: x, bytes: b})
	}
	return nil
}

// block is the run of the block to which x leads.
func (p *Pool) block(x api.Ptr) (api.Run, error) {
	if p.down {
		return api.Run{}, api.ErrDown
	}
	r, err := p.space.Find(x.At - api.OwnRows)
	if err != nil || r.Tag == ownTag || pointer(r) != x {
		return api.Run{}, api.ErrBlock
	}
	return r, nil
}

// pointer leads to the block that has the run r.
func pointer(r api.Run) api.Ptr {
	return api.Ptr{At: api.OwnRows + r.At, Len: int(r.Tag & (1<<lenBits - 1)), Stamp: r.Tag >> lenBits}
}

// stamp is one that was never given before.
func (p *Pool) stamp() (uint64, error) {
	if p.count == stampsOfAge {
		if err := p.claim(); err != nil {
			return 0, err
		}
	}
	p.count++
	return p.head.age*stampsOfAge + p.count - 1, nil
}

// settle writes the blocks that wait, by their places: what becomes of a disk's operation must not hang on the map's order.
func (p *Pool) settle() error {
	var l []api.Ptr
	for x := range p.waiting {
		l = append(l, x)
	}
	slices.SortFunc(l, func(a, b api.Ptr) int { return a.At - b.At })
	for _, x := range l {
		b := p.waiting[x]
		if len(b) == 0 {
			b = []byte{0} // it has a row too
		}
		if err := p.vol.Write(x.At, x.Stamp, b); err != nil {
			return err
		}
	}
	clear(p.waiting)
	return nil
}
