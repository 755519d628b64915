package space

import (
	"bedrock/api"
	"bedrock/number"
)

// How many bytes the form of a space has for the number of its rows, and for a run: its place, its rows, its count, its tag. All numbers begin with the lowest byte.
const (
	headSize = 4
	runSize  = 4 + 4 + 2 + 8
)

// Bytes tells the space as bytes.
func (s *Space) Bytes() []byte {
	b := number.Append(nil, uint64(s.rows), headSize)
	for r := range s.Runs() {
		b = number.Append(b, uint64(r.At), 4)
		b = number.Append(b, uint64(r.N), 4)
		b = number.Append(b, uint64(r.Count), 2)
		b = number.Append(b, r.Tag, 8)
	}
	return b
}

// Load makes the Space that Bytes told.
func Load(b []byte) (*Space, error) {
	if len(b) < headSize || (len(b)-headSize)%runSize != 0 {
		return nil, api.ErrForm
	}
	s := &Space{rows: int(number.Of(b[:headSize]))}
	if s.rows > api.MaxRows {
		return nil, api.ErrForm
	}
	var l []piece
	end := 0
	for b = b[headSize:]; len(b) > 0; b = b[runSize:] {
		p := piece{runOf(b[:runSize]), kept}
		if p.At < end || p.N < 1 || p.end() > s.rows || p.Count < 1 {
			return nil, api.ErrForm
		}
		l = append(l, p)
		s.used += p.N
		end = p.end()
	}
	s.list = listed(l)
	return s, nil
}

func runOf(b []byte) api.Run {
	return api.Run{At: int(number.Of(b[:4])), N: int(number.Of(b[4:8])), Count: int(number.Of(b[8:10])), Tag: number.Of(b[10:])}
}
