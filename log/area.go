package log

import (
	"slices"

	"bedrock/api"
	"bedrock/vol"
)

// maxRows is how many rows a log may have: so many that the number of a row in it has two bytes in the stamp.
const maxRows = 1<<16 - 1

// headSize is how many bytes a row has ahead of those of the note.
const headSize = 4

// area is rows of a volume in which there may be a log.
type area struct {
	v        *vol.Vol
	at, rows int
	life     uint64
}

func areaOf(v *vol.Vol, at, rows int, life uint64) (area, error) {
	if rows < 1 || rows > maxRows || life < 1 || life > api.MaxLife {
		return area{}, api.ErrArg
	}
	if at < 0 || at > v.Rows()-rows {
		return area{}, api.ErrPlace
	}
	return area{v, at, rows, life}, nil
}

// stamp is that of the row i. A row is written once in a life, so that none is ever written twice with one stamp.
func (a area) stamp(i int) uint64 { return a.life<<16 | uint64(i) }

// write gives a piece to the row i.
func (a area) write(i int, p piece) error { return a.v.Mark(a.at+i, a.stamp(i), p.seal()) }

// renew gives a piece to the row i of those disks that do not have it, and tells how many these are.
func (a area) renew(i int, p piece) (int, error) { return a.v.Renew(a.at+i, a.stamp(i), p.seal()) }

// read is the piece that the row i has; the zero piece, if no disk has one of this life.
func (a area) read(i int) (piece, error) {
	marks, err := a.v.Marks(a.at + i)
	if err != nil {
		return piece{}, err
	}
	for _, m := range marks {
		if m.Stamp == a.stamp(i) {
			return open(m.Bytes), nil
		}
	}
	return piece{}, nil
}

// note is the note that begins in the row i; nil, if none does that is whole.
func (a area) note(i int) ([]byte, error) {
	var b []byte
	size := 0
	for part := 0; i+part < a.rows; part++ {
		p, err := a.read(i + part)
		if part == 0 {
			size = p.size
		}
		if err != nil || p.size != size || p.part != part {
			return nil, err
		}
		b = append(b, p.bytes...) // nothing, of the zero piece
		if len(b) == size {
			return b, nil
		}
	}
	return nil, nil
}

// piece is what a row has of a note: how many bytes the note has in all, which of its rows this is, and the bytes.
type piece struct {
	size, part int
	bytes      []byte
}

// cut makes the pieces of a note.
func cut(b []byte) []piece {
	var l []piece
	for some := range slices.Chunk(b, api.NoteRow) {
		l = append(l, piece{len(b), len(l), some})
	}
	return l
}

// seal makes the bytes of a row.
func (p piece) seal() []byte {
	return append([]byte{byte(p.size), byte(p.size >> 8), byte(p.part), 0}, p.bytes...)
}

// open is the piece that was sealed as b; the zero piece, if none was.
func open(b []byte) piece {
	if len(b) < headSize || b[3] != 0 {
		return piece{}
	}
	p := piece{int(b[0]) | int(b[1])<<8, int(b[2]), b[headSize:]}
	if rest := p.size - p.part*api.NoteRow; p.size > api.MaxNote || len(p.bytes) != min(rest, api.NoteRow) {
		return piece{}
	}
	return p
}

// rowsOf is how many rows a note of so many bytes needs.
func rowsOf(size int) int { return (size + api.NoteRow - 1) / api.NoteRow }
