package pool

import "bedrock/api"

// step is what became other in waiting: a block was put there, or one that had these bytes was taken away; or it is what undoes something else.
type step struct {
	x     api.Ptr
	put   bool
	bytes []byte
	undo  func()
}

// Try calls f, and undoes what it did with blocks, if it does not end well.
func (p *Pool) Try(f func() error) error {
	if p.down {
		return api.ErrDown
	}
	was, first, good := state{p.space.Copy(), p.blocks}, len(p.steps), false
	p.tries++
	defer func() {
		if !good {
			p.undo(was, first)
		}
		p.tries--
		if p.tries == 0 {
			p.steps = nil
		}
	}()
	err := f()
	good = err == nil
	return err
}

// Trying tells whether a Try goes on, by which what is done now may be undone.
func (p *Pool) Trying() bool { return p.tries > 0 }

// OnUndo lets f be called when the Try that goes on, or one around it, is undone: so what stands on blocks can be as before, too. Without a Try nothing is ever undone.
func (p *Pool) OnUndo(f func()) { p.record(step{undo: f}) }

// record notes a step, so that it can be undone.
func (p *Pool) record(s step) {
	if p.tries > 0 {
		p.steps = append(p.steps, s)
	}
}

// undo takes back all steps from the one numbered first on, the last one first.
func (p *Pool) undo(was state, first int) {
	p.state = was
	for len(p.steps) > first {
		s := p.steps[len(p.steps)-1]
		p.steps = p.steps[:len(p.steps)-1]
		switch {
		case s.undo != nil:
			s.undo()
		case s.put:
			delete(p.waiting, s.x)
		default:
			p.waiting[s.x] = s.bytes
		}
	}
}
