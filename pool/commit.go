package pool

import (
	"slices"

	"bedrock/api"
	"bedrock/log"
	"bedrock/space"
)

// Commit makes all last that was done.
func (p *Pool) Commit(root []byte) error {
	return p.CommitBy(func() ([]byte, error) { return root, nil })
}

// CommitBy makes all last that was done, and what f does, with the root that f answers; with an error what f did is undone.
func (p *Pool) CommitBy(f func() ([]byte, error)) error {
	if err := p.ready(); err != nil {
		return err
	}
	return p.Try(func() error {
		root, err := f()
		if err != nil {
			return err
		}
		return p.commit(root)
	})
}

// commit makes all last that was done, within a Try of its own.
func (p *Pool) commit(root []byte) error {
	if len(root) > api.MaxRoot {
		return api.ErrLong
	}
	next := p.space.Copy()
	own, err := p.takeOwn(next)
	if err != nil {
		return err
	}
	for r := range p.last.Runs() {
		if r.Tag != ownTag {
			continue
		}
		if err := next.Drop(r.At); err != nil {
			return err
		}
	}
	if err := p.save(next, own, root); err != nil {
		return p.fail(err)
	}
	next.Turn()
	p.keep(next)
	return p.begin()
}

// save writes all that a commit leaves, the head behind all others.
func (p *Pool) save(next *space.Space, own []run, root []byte) error {
	stamp, err := p.stamp()
	if err != nil {
		return err
	}
	if err := p.settle(); err != nil {
		return err
	}
	if err := p.writeOwn(own, stamp, next.Bytes()); err != nil {
		return err
	}
	if err := p.vol.Flush(); err != nil {
		return err
	}
	h := p.head
	h.rows = p.rows()
	h.step++
	h.life++
	h.own, h.ownStamp = run{}, stamp
	if len(own) > 0 {
		h.own = own[0]
	}
	h.root = slices.Clone(root)
	return p.lay(h)
}

// keep takes s as what the last commit left.
func (p *Pool) keep(s *space.Space) {
	p.state = state{space: s}
	p.last, p.own = s.Copy(), 0
	for r := range s.Runs() {
		if r.Tag == ownTag {
			p.own += r.N
		} else {
			p.blocks++
		}
	}
}

// begin begins the log anew.
func (p *Pool) begin() error {
	var err error
	p.log, err = log.Begin(p.vol, heads, api.LogRows, p.head.life)
	p.noted = nil
	return err
}
