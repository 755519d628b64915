package pool

import (
	"slices"

	"bedrock/api"
)

// Note writes a note.
func (p *Pool) Note(b []byte) error {
	if err := p.notable(); err != nil {
		return err
	}
	if err := p.log.Note(b); err != nil {
		return p.fail(err)
	}
	p.noted = append(p.noted, slices.Clone(b))
	return nil
}

// Sync makes safe what was noted.
func (p *Pool) Sync() error {
	if err := p.notable(); err != nil {
		return err
	}
	return p.fail(p.log.Sync())
}

// Notes tells the notes that were found when the pool was opened.
func (p *Pool) Notes() [][]byte {
	if p.down || p.log != nil {
		return nil
	}
	var l [][]byte
	for _, b := range p.noted {
		l = append(l, slices.Clone(b))
	}
	return l
}

// Life tells the life of the log: with each commit another one begins.
func (p *Pool) Life() uint64 { return p.head.life }

// notable is the error of a note that may not come now.
func (p *Pool) notable() error {
	switch {
	case p.down:
		return api.ErrDown
	case p.log == nil:
		return api.ErrOrder
	}
	return nil
}
