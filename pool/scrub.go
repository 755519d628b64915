package pool

import (
	"errors"

	"bedrock/api"
)

// Scrub looks at all that is there, and mends it.
func (p *Pool) Scrub() (api.Scrub, error) {
	if err := p.ready(); err != nil {
		return api.Scrub{}, err
	}
	out, err := p.scrub()
	if err != nil {
		return api.Scrub{}, p.fail(err)
	}
	return out, nil
}

// Replace puts d in the place of the disk i, and gives it what it needs.
func (p *Pool) Replace(i int, d *api.Disk) error {
	if err := p.ready(); err != nil {
		return err
	}
	if err := p.vol.Replace(i, d); err != nil {
		return err
	}
	_, err := p.Scrub()
	return err
}

// scrub goes through all until there was nothing to mend: what is written to mend may go astray, and spoil what was looked at already.
func (p *Pool) scrub() (api.Scrub, error) {
	out := api.Scrub{Blocks: p.blocks}
	for {
		own, err := p.mendOwn()
		if err != nil {
			return api.Scrub{}, err
		}
		if err := p.settle(); err != nil {
			return api.Scrub{}, err
		}
		blocks, spoilt, err := p.mendBlocks()
		if err != nil {
			return api.Scrub{}, err
		}
		if err := p.vol.Flush(); err != nil {
			return api.Scrub{}, err
		}
		out.Mended += own + blocks
		out.Spoilt = spoilt
		if own+blocks == 0 {
			return out, nil
		}
	}
}

// mendOwn mends what the pool has for itself, and tells how many sectors were written.
func (p *Pool) mendOwn() (int, error) {
	count := 0
	for r := range p.last.Runs() {
		if r.Tag != ownTag {
			continue
		}
		n, err := p.vol.Scrub(api.OwnRows+r.At, r.N, p.head.ownStamp)
		if err != nil {
			return 0, err
		}
		count += n
	}
	for _, mend := range []func() (int, error){p.mendHead, p.mendLog} {
		n, err := mend()
		if err != nil {
			return 0, err
		}
		count += n
	}
	return count, nil
}

// mendBlocks mends the blocks that are in use, and those that the last commit left, and tells how many sectors were written, and how many blocks are spoilt.
func (p *Pool) mendBlocks() (int, int, error) {
	var l []api.Run
	for r := range p.last.Runs() {
		if r.Tag != ownTag {
			l = append(l, r)
		}
	}
	for r := range p.space.Runs() {
		if _, err := p.last.Find(r.At); err != nil {
			l = append(l, r)
		}
	}
	count, spoilt := 0, 0
	for _, r := range l {
		n, whole, err := p.mend(pointer(r), r.N)
		if err != nil {
			return 0, 0, err
		}
		count += n
		if !whole {
			spoilt++
		}
	}
	return count, spoilt, nil
}

// mend mends a block of n rows, row by row, so that one that is spoilt for ever does not stand in the way of the others.
func (p *Pool) mend(x api.Ptr, n int) (int, bool, error) {
	count, whole := 0, true
	for i := range n {
		k, err := p.vol.Scrub(x.At+i, 1, x.Stamp)
		switch {
		case errors.Is(err, api.ErrSpoilt):
			whole = false
		case err != nil:
			return 0, false, err
		}
		count += k
	}
	return count, whole, nil
}
