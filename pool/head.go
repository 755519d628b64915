package pool

import (
	"bedrock/api"
	"bedrock/log"
	"bedrock/number"
	"bedrock/vol"
)

// heads is how many of the pool's own rows have heads: two pairs, of which the head that holds has one, both rows alike, so that no one sector has it alone. The log's rows are behind them.
const heads = api.OwnRows - api.LogRows

// head is what leads to all that a commit left. Each disk has it whole.
type head struct {
	shape     api.Shape
	id        uint64
	rows      int
	age, step uint64 // of two heads that with the higher age holds, or the higher step in one age
	life      uint64 // the log's
	own       run    // the first rows of the notes on the blocks
	ownStamp  uint64
	root      []byte
}

// run is rows one behind the other, from the first one behind the pool's own ones on.
type run struct{ at, n int }

// What a head begins with, and how many bytes it has ahead of the root.
const (
	headMark = "bdrk"
	headSize = 52
)

// bytes is the head as bytes.
func (h head) bytes() []byte {
	b := append([]byte(headMark), byte(h.shape.Data), byte(h.shape.Level))
	b = number.Append(b, uint64(len(h.root)), 2)
	b = number.Append(b, h.id, 8)
	b = number.Append(b, uint64(h.rows), 4)
	b = number.Append(b, h.age, 4)
	b = number.Append(b, h.step, 4)
	b = number.Append(b, h.life, 8)
	b = number.Append(b, uint64(h.own.at), 4)
	b = number.Append(b, uint64(h.own.n), 4)
	b = number.Append(b, h.ownStamp, 8)
	return append(b, h.root...)
}

// headOf is the head that has these bytes; one of age 0, if none has.
func headOf(b []byte) head {
	if len(b) < headSize || string(b[:len(headMark)]) != headMark {
		return head{}
	}
	root := b[headSize:]
	b = b[len(headMark):]
	next := func(n int) uint64 {
		x := number.Of(b[:n])
		b = b[n:]
		return x
	}
	h := head{root: root}
	h.shape = api.Shape{Data: int(next(1)), Level: int(next(1))}
	if next(2) != uint64(len(root)) {
		return head{}
	}
	h.id = next(8)
	h.rows = int(next(4))
	h.age, h.step, h.life = next(4), next(4), next(8)
	h.own = run{int(next(4)), int(next(4))}
	h.ownStamp = next(8)
	if !h.good() {
		return head{}
	}
	return h
}

// mostSteps is more than there can be of ages and lives.
const mostSteps = 1 << 31

// good tells whether a pool may have such a head: what is found in a sector is not to lead astray, also where its sum fits by chance.
func (h head) good() bool {
	switch {
	case h.life < 1 || max(h.age, h.life) >= mostSteps:
		return false
	case h.rows < api.MinRows || h.rows > api.MaxRows || len(h.root) > api.MaxRoot:
		return false
	}
	return h.own.n == 0 || h.ownStamp > 0
}

// stamp is that of the head's rows.
func (h head) stamp() uint64 { return h.age<<32 | h.step }

// newest is the head that holds, and the pair of rows that has it; one of age 0, if there is none.
func newest(v *vol.Vol) (head, int, error) {
	var best head
	pair := 0
	for row := range min(heads, v.Rows()) {
		marks, err := v.Marks(row)
		if err != nil {
			return head{}, 0, err
		}
		for _, m := range marks {
			if h := headOf(m.Bytes); h.stamp() == m.Stamp && h.stamp() > best.stamp() {
				best, pair = h, row/2
			}
		}
	}
	return best, pair, nil
}

// find takes the head that holds.
func (p *Pool) find() error {
	var err error
	p.head, p.pair, err = newest(p.vol)
	return err
}

// mendHead writes the head to those disks that lack it, and tells how many sectors that were.
func (p *Pool) mendHead() (int, error) {
	count := 0
	for i := range 2 {
		n, err := p.vol.Renew(2*p.pair+i, p.head.stamp(), p.head.bytes())
		if err != nil {
			return 0, err
		}
		count += n
	}
	return count, nil
}

// renew makes safe, on all disks, the head and the notes that were found. What is found may be on one disk alone: if the other head were written over first, and that disk were gone then, there would be none.
func (p *Pool) renew() error {
	if _, err := p.mendHead(); err != nil {
		return err
	}
	if _, err := p.mendLog(); err != nil {
		return err
	}
	return p.vol.Flush()
}

// mendLog writes the notes to those disks that lack them, and tells how many sectors that were.
func (p *Pool) mendLog() (int, error) {
	return log.Mend(p.vol, heads, api.LogRows, p.head.life, p.noted)
}

// claim begins a new age, so that no stamp of an age that was left behind is given again. It takes two steps: where the second one has begun, all disks know of the first one, and take no such age again. So of two ages of one number, of which one came no farther than its first step, on a disk that was missing since, the other one holds.
func (p *Pool) claim() error {
	h := p.head
	h.rows = p.rows()
	h.age++
	h.step = 0
	if err := p.lay(h); err != nil {
		return err
	}
	h.step = 1
	p.count = 0
	return p.lay(h)
}

// lay writes a head to the pair of rows that has not the head that holds: until it is safe that one is there.
func (p *Pool) lay(h head) error {
	pair := 1 - p.pair
	for i := range 2 {
		if err := p.vol.Mark(2*pair+i, h.stamp(), h.bytes()); err != nil {
			return err
		}
	}
	if err := p.vol.Flush(); err != nil {
		return err
	}
	p.head, p.pair = h, pair
	return nil
}
