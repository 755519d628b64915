package code

import (
	"bedrock/api"
)

// A step of a short form, by its first byte t: t + 1 bytes that stand for themselves, or, from copyMark on, t - 125 that came out before.
const (
	copyMark  = 128
	mostPlain = copyMark
	mostCopy  = 255 - 125
)

// leastCopy is how many bytes are worth a copy: it takes three, and may part a run of plain bytes, which takes one more. With fewer bytes a form could be longer than 2.4 allows.
const leastCopy = 4

// mostTries is how many places are tried for one copy, the nearest first: of bytes that come again 64 bytes later that place is among them, whatever else they begin like.
const mostTries = 64

// Squeeze: a short form of b.
func Squeeze(b []byte) ([]byte, error) {
	if len(b) > api.MaxBlock {
		return nil, api.ErrLong
	}
	p := newPlaces(b)
	var out []byte
	done := 0
	for i := 0; i < len(b); {
		from, size := p.longest(i)
		if size < leastCopy {
			i++
			continue
		}
		out = addPlain(out, b[done:i])
		out = append(out, byte(size+125), byte(i-from-1), byte((i-from-1)>>8))
		i += size
		done = i
	}
	return addPlain(out, b[done:]), nil
}

// addPlain adds bytes to out that stand for themselves.
func addPlain(out, b []byte) []byte {
	for len(b) > 0 {
		n := min(len(b), mostPlain)
		out = append(out, byte(n-1))
		out = append(out, b[:n]...)
		b = b[n:]
	}
	return out
}

// places tells where bytes stood before.
type places struct {
	bytes  []byte
	before []int // for each place the last one ahead of it that begins with the same leastCopy bytes: -1, if there is none
}

// newPlaces goes through b once.
func newPlaces(b []byte) places {
	p := places{bytes: b, before: make([]int, len(b))}
	last := make(map[[leastCopy]byte]int, len(b))
	for i := range b {
		p.before[i] = -1
		if i+leastCopy > len(b) {
			continue
		}
		key := [leastCopy]byte{b[i], b[i+1], b[i+2], b[i+3]}
		if at, ok := last[key]; ok {
			p.before[i] = at
		}
		last[key] = i
	}
	return p
}

// longest is the place ahead of i from which most bytes are the same as from i on, and how many they are.
func (p places) longest(i int) (from, size int) {
	most := min(len(p.bytes)-i, mostCopy)
	at := p.before[i]
	for try := 0; try < mostTries && at >= 0 && size < most; try++ {
		if n := p.same(at, i, most); n > size {
			from, size = at, n
		}
		at = p.before[at]
	}
	return from, size
}

// same is how many bytes, at most so many, are the same from both places on.
func (p places) same(at, i, most int) int {
	n := 0
	for n < most && p.bytes[at+n] == p.bytes[i+n] {
		n++
	}
	return n
}

// Swell: what comes out of a short form.
func Swell(b []byte, most int) ([]byte, error) {
	if most < 0 {
		return nil, api.ErrArg
	}
	var out []byte
	for len(b) > 0 {
		size := stepBytes(b[0])
		if size > len(b) {
			return nil, api.ErrForm
		}
		if b[0] < copyMark {
			out = append(out, b[1:size]...)
		} else {
			back := 1 + int(b[1]) + int(b[2])<<8
			if back > len(out) {
				return nil, api.ErrForm
			}
			out = addCopy(out, back, int(b[0])-125)
		}
		if len(out) > most {
			return nil, api.ErrLong
		}
		b = b[size:]
	}
	return out, nil
}

// stepBytes is how many bytes a step takes that begins with t.
func stepBytes(t byte) int {
	if t < copyMark {
		return 1 + int(t) + 1
	}
	return 1 + 2
}

// addCopy adds so many bytes to out, each as it stands so far back from it; one by one, since they may be among those that are added.
func addCopy(out []byte, back, size int) []byte {
	for range size {
		out = append(out, out[len(out)-back])
	}
	return out
}
