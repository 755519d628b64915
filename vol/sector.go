package vol

import (
	"bytes"
	"errors"
	"slices"

	"bedrock/api"
	"bedrock/number"
	"bedrock/sum"
)

// way is how a row was written.
type way byte

const (
	written way = 1 + iota
	marked
)

// Where what stands in a sector begins. Its sum stands at the end, the lowest byte first: so sector and sum are one word of the sum's code, of which no 32 bits in a row can be turned into another word. The stamp and the way, none of which is ever 0, are farther apart than that: so no turned bits make a good sector of one that was never written.
const (
	atStamp = 0
	atRow   = 8
	atDisk  = 16
	atWay   = 17
	atLen   = 18
	atBytes = 20
	atSum   = atBytes + api.SectorRoom
)

// place is where a sector belongs, and for which way of writing.
type place struct {
	disk, row int
	way       way
}

// seal makes the sector that has b, at most SectorRoom bytes.
func (p place) seal(stamp uint64, b []byte) []byte {
	s := make([]byte, api.SectorSize)
	number.Put(s[atStamp:atRow], stamp)
	number.Put(s[atRow:atDisk], uint64(p.row))
	s[atDisk] = byte(p.disk)
	s[atWay] = byte(p.way)
	s[atLen] = byte(len(b))
	copy(s[atBytes:atSum], b)
	number.Put(s[atSum:], uint64(sum.Sum(s[:atSum])))
	return s
}

// open tells the stamp and the bytes of a sector that was sealed for this place; the stamp 0 of all others. The bytes are a part of the sector. It must be all that seal makes: where many bits were turned the sum may fit, and yet the bytes be fewer than a row needs.
func (p place) open(s []byte) (uint64, []byte) {
	if len(s) != api.SectorSize || int(s[atLen]) > api.SectorRoom {
		return 0, nil
	}
	stamp, b := number.Of(s[atStamp:atRow]), s[atBytes:atBytes+int(s[atLen])]
	if p.way == written && len(b) < api.SectorRoom || !bytes.Equal(s, p.seal(stamp, b)) {
		return 0, nil
	}
	return stamp, b
}

// sectors are n sectors of a disk from at on; one that cannot be read is nil.
func sectors(d *api.Disk, at, n int) ([][]byte, error) {
	b, err := d.Read(at, n)
	switch {
	case errors.Is(err, api.ErrSector) && n == 1:
		return [][]byte{nil}, nil
	case errors.Is(err, api.ErrSector):
		// The disk does not tell which one it is: each half is asked for itself.
		first, err := sectors(d, at, n/2)
		if err != nil {
			return nil, err
		}
		second, err := sectors(d, at+n/2, n-n/2)
		return append(first, second...), err
	case err != nil:
		return nil, err
	}
	return slices.Collect(slices.Chunk(b, api.SectorSize)), nil
}
