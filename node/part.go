package node

import (
	"iter"
	"math/bits"

	"bedrock/api"
	"bedrock/number"
)

// Pages lie in groups: so many one behind the other, the first of which has a number that they divide. A block has room for one group.
const (
	groupPages = api.MaxBlock / api.PageSize
	groupBytes = api.MaxBlock
	mostPages  = api.MaxFile / api.PageSize
)

// mask is some of a group's pages, or of those in a block: a bit for each.
type mask uint16

// window is the pages from first on, ahead of end, as far as a group goes.
func window(first, end int) mask {
	var m mask
	for i := max(first, 0); i < min(end, groupPages); i++ {
		m |= 1 << i
	}
	return m
}

func (m mask) has(i int) bool { return m>>i&1 > 0 }

func (m mask) count() int { return bits.OnesCount16(uint16(m)) }

// first is the first page; groupPages, if there is none.
func (m mask) first() int { return bits.TrailingZeros16(uint16(m)) }

// rest is all pages but the first one.
func (m mask) rest() mask { return m & (m - 1) }

// part is some pages of a group that lie in one block, in their order; perhaps among others, which this node has no more, or never had.
type part struct {
	pages mask // those of the group
	from  mask // and where they are in the block
	total int  // so many pages the block has
	block api.Ptr
}

// partBytes is how many bytes the map has of a part, beside its block.
const partBytes = 1 + 2 + 2

// bytes is what the map has of a part.
func (p part) bytes() []byte {
	b := number.Append(nil, uint64(p.total), 1)
	b = number.Append(b, uint64(p.pages), 2)
	return number.Append(b, uint64(p.from), 2)
}

// partOf is the part that the map has under the key of that page. Others were not put there by a table.
func partOf(pair api.Pair, page int) (part, error) {
	b := pair.Val
	if len(b) != partBytes {
		return part{}, api.ErrSpoilt
	}
	p := part{total: int(b[0]), pages: mask(number.Of(b[1:3])), from: mask(number.Of(b[3:5])), block: pair.Block}
	if p.total > groupPages || p.pages.first() != page%groupPages || p.pages.count() != p.from.count() || p.from&^window(0, p.total) > 0 {
		return part{}, api.ErrSpoilt
	}
	return p, nil
}

// each goes over the pages, and where each is in the block.
func (p part) each() iter.Seq2[int, int] {
	return func(yield func(int, int) bool) {
		pages, from := p.pages, p.from
		for pages > 0 && yield(pages.first(), from.first()) {
			pages, from = pages.rest(), from.rest()
		}
	}
}

// moved is a part of the same block, with each page so much further on, if into has that; the others are left out.
func (p part) moved(by int, into mask) part {
	out := part{total: p.total, block: p.block}
	for i, at := range p.each() {
		if i += by; i >= 0 && into.has(i) {
			out.pages |= 1 << i
			out.from |= 1 << at
		}
	}
	return out
}
