package pool

import (
	"slices"

	"bedrock/api"
	"bedrock/number"
	"bedrock/space"
)

// The notes on the blocks are the bytes of a space. They lie in pieces of at most pieceRows rows, each of which begins with where the next one is, and how many of the bytes it has.
const (
	pieceRows = 40
	pieceHead = 8
)

// How many bytes a space has at most, and for each of its runs.
const (
	spaceBytes = 16
	runBytes   = 20
)

// takeOwn takes rows of s for the notes on its blocks, and on these rows themselves.
func (p *Pool) takeOwn(s *space.Space) ([]run, error) {
	if p.blocks == 0 {
		return nil, nil
	}
	var l []run
	for size := spaceBytes + runBytes*p.blocks; size > 0; {
		r, err := take(s, min(pieceRows, p.rowsOf(size+runBytes+pieceHead)))
		if err != nil {
			return nil, err
		}
		l = append(l, r)
		size -= r.n*p.vol.RowBytes() - pieceHead - runBytes
	}
	return l, nil
}

// take takes n rows one behind the other, or half as many, and so on.
func take(s *space.Space, n int) (run, error) {
	for ; n > 0; n /= 2 {
		if at, err := s.Take(n, ownTag); err == nil {
			return run{at, n}, nil
		}
	}
	return run{}, api.ErrRoom
}

// spare tells whether n rows may be taken for one more block: so many are left that the notes on all blocks have room in this commit, and in the next one, which needs new rows while it has these still. So a full pool can be committed, and what is dropped then becomes free.
func (p *Pool) spare(n int) bool {
	each := p.vol.RowBytes() - pieceHead - runBytes
	need := (spaceBytes + runBytes*(p.blocks+1) + each - 1) / each
	free := p.space.Rows().Free - n
	return free >= need && free+p.own >= 2*need
}

// writeOwn writes the notes on the blocks.
func (p *Pool) writeOwn(l []run, stamp uint64, b []byte) error {
	for i, r := range l {
		var next run
		if i+1 < len(l) {
			next = l[i+1]
		}
		piece := make([]byte, r.n*p.vol.RowBytes())
		size := copy(piece[pieceHead:], b)
		b = b[size:]
		number.Put(piece[:4], uint64(next.at))
		number.Put(piece[4:6], uint64(next.n))
		number.Put(piece[6:8], uint64(size))
		if err := p.vol.Write(api.OwnRows+r.at, stamp, piece); err != nil {
			return err
		}
	}
	return nil
}

// readOwn reads the notes on the blocks, and tells in which rows they lie.
func (p *Pool) readOwn() ([]byte, []run, error) {
	var all []byte
	var l []run
	been := map[int]run{}
	for r := p.head.own; r.n > 0; {
		if been[r.at].n > 0 || r.at > p.rows()-api.OwnRows-r.n { // it leads round and round, or nowhere
			return nil, nil, api.ErrSpoilt
		}
		been[r.at] = r
		b, err := p.vol.Read(api.OwnRows+r.at, r.n, p.head.ownStamp)
		if err != nil {
			return nil, nil, err
		}
		size := int(number.Of(b[6:8]))
		if size > len(b)-pieceHead {
			return nil, nil, api.ErrSpoilt
		}
		all = append(all, b[pieceHead:pieceHead+size]...)
		l = append(l, r)
		r = run{int(number.Of(b[:4])), int(number.Of(b[4:6]))}
	}
	return all, l, nil
}

// load takes what the notes on the blocks tell; all rows are free, if there are none.
func (p *Pool) load() error {
	b, own, err := p.readOwn()
	if err != nil {
		return err
	}
	s, err := space.New(0)
	if len(own) > 0 {
		s, err = space.Load(b)
	}
	if err != nil || !p.fits(s, own) {
		return api.ErrSpoilt
	}
	p.keep(s)
	return p.stretch()
}

// fits tells whether a space is one that this pool may have, with its own notes in these rows: what is told of a block must be so that it can be read.
func (p *Pool) fits(s *space.Space, own []run) bool {
	if r := s.Rows(); r.Used+r.Held+r.Free > p.rows()-api.OwnRows {
		return false
	}
	found := 0
	for r := range s.Runs() {
		x := pointer(r)
		switch {
		case r.Tag == ownTag && r.Count == 1 && slices.Contains(own, run{r.At, r.N}):
			found++
		case r.Tag == ownTag || x.Stamp == 0 || x.Len > api.MaxBlock || r.N != p.rowsOf(x.Len):
			return false
		}
	}
	return found == len(own)
}
