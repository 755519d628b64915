package vol

import (
	"bytes"
	"cmp"
	"errors"
	"math/rand"
	"slices"
	"strings"
	"testing"

	"bedrock/api"
	"bedrock/number"
	"bedrock/sum"
)

// turn turns bits of a sector as a disk does.
func turn(s []byte, bit int, bits uint32) []byte {
	s = slices.Clone(s)
	for i := 0; i < 32 && bit+i < 8*len(s); i++ {
		s[(bit+i)/8] ^= byte(bits>>i&1) << ((bit + i) % 8)
	}
	return s
}

// off is by how much the sum of a sector does not fit.
func off(s []byte) uint32 { return sum.Sum(s[:atSum]) ^ uint32(number.Of(s[atSum:])) }

// making are the bits, from the bit numbered bit on, that make the sum of a sector fit (if there are such).
func making(s []byte, bit int) (uint32, bool) {
	type step struct{ effect, bits uint32 }
	var base []step
	reduce := func(x step) step {
		for _, y := range base {
			if x.effect^y.effect < x.effect {
				x.effect, x.bits = x.effect^y.effect, x.bits^y.bits
			}
		}
		return x
	}
	for i := range 32 {
		x := reduce(step{off(turn(s, bit, 1<<i)) ^ off(s), 1 << i})
		if x.effect != 0 {
			base = append(base, x)
			slices.SortFunc(base, func(a, b step) int { return cmp.Compare(b.effect, a.effect) })
		}
	}
	x := reduce(step{off(s), 0})
	return x.bits, x.effect == 0
}

// TestNeverWritten turns just those bits of a sector that was never written which make its sum fit.
func TestNeverWritten(t *testing.T) {
	none := make([]byte, api.SectorSize)
	found := 0
	for bit := range 8 * api.SectorSize {
		bits, is := making(none, bit)
		if !is {
			continue
		}
		found++
		s := turn(none, bit, bits)
		if off(s) != 0 {
			t.Fatal("the sum does not fit")
		}
		for _, w := range []way{written, marked} {
			if stamp, _ := (place{0, 0, w}).open(s); stamp != 0 {
				t.Errorf("bits %x from %d on: the stamp %d", bits, bit, stamp)
			}
		}
	}
	if found < 900 {
		t.Errorf("only %d were tried", found)
	}
}

// TestTurnedBits: whatever up to 32 bits in a row are turned, the sector is not good.
func TestTurnedBits(t *testing.T) {
	r := rand.New(rand.NewSource(1))
	for _, w := range []way{written, marked} {
		b := make([]byte, api.SectorRoom)
		r.Read(b)
		p := place{3, 77, w}
		s := p.seal(r.Uint64()|1, b)
		for bit := range 8 * api.SectorSize {
			for k := range 200 {
				bits := r.Uint32() >> (k % 32)
				if k < 32 {
					bits = 1 << k
				}
				x := turn(s, bit, bits)
				if bytes.Equal(x, s) {
					continue
				}
				if stamp, _ := p.open(x); stamp != 0 {
					t.Fatalf("bits %x from %d on", bits, bit)
				}
			}
		}
	}
}

func TestPlaces(t *testing.T) {
	whole := strings.Repeat("whole", api.SectorRoom)[:api.SectorRoom]
	for _, c := range []struct {
		way   way
		bytes string
	}{{written, whole}, {marked, "bytes"}, {marked, ""}, {marked, whole}} {
		p := place{2, 5, c.way}
		s := p.seal(9, []byte(c.bytes))
		if stamp, b := p.open(s); stamp != 9 || string(b) != c.bytes {
			t.Errorf("%d, %q", stamp, b)
		}
		for _, q := range []place{{1, 5, c.way}, {2, 4, c.way}, {2, 5, written + marked - c.way}, {2, 5 + 1<<32, c.way}, {2, 5 + 1<<40, c.way}} {
			if stamp, b := q.open(s); stamp != 0 || b != nil {
				t.Errorf("%v has what was meant for %v", q, p)
			}
		}
		if stamp, _ := p.open(nil); stamp != 0 {
			t.Error("a sector that cannot be read is good")
		}
	}
}

// TestNoForm: what a seal never makes is no good sector, though its sum fits.
func TestNoForm(t *testing.T) {
	whole, short := make([]byte, api.SectorRoom), []byte("bytes")
	for _, c := range []struct {
		what  string
		way   way
		bytes []byte
		at    int
		to    byte
	}{
		{"fewer bytes than a row needs", written, whole, atLen, 48},
		{"no bytes", written, whole, atLen, 0},
		{"more bytes than there is room for", written, whole, atLen, api.SectorRoom + 1},
		{"more bytes than there is room for", marked, short, atLen, 255},
		{"something behind the bytes", marked, short, atBytes + len(short), 1},
		{"something behind the bytes", marked, short, atSum - 1, 1},
		{"something behind their length", marked, short, atLen + 1, 1},
		{"something behind their length", written, whole, atLen + 1, 1},
	} {
		p := place{2, 5, c.way}
		s := p.seal(9, c.bytes)
		s[c.at] = c.to
		number.Put(s[atSum:], uint64(sum.Sum(s[:atSum])))
		if stamp, b := p.open(s); stamp != 0 || b != nil {
			t.Errorf("%s: %d, %q", c.what, stamp, b)
		}
	}
}

// TestTurnedRows: bits that leave the sum as it should be are turned in a row that was written: what Read tells, if it tells anything, has as many bytes as the row.
func TestTurnedRows(t *testing.T) {
	for _, shape := range []api.Shape{{Data: 1}, {Data: 1, Level: 1}, {Data: 3, Level: 2}} {
		var l []*api.Disk
		for range shape.Data + shape.Level {
			l = append(l, api.NewDisk(10))
		}
		v, err := New(l, shape)
		ok(t, err)
		b := make([]byte, 2*v.RowBytes())
		rand.New(rand.NewSource(1)).Read(b)
		ok(t, v.Write(3, 7, b))
		turn := func(bit int) {
			l[0].Spoil(3, bit, 1)
			l[0].Spoil(3, bit+1, 0x82f63b78)
		}
		for bit := range 8*api.SectorSize - 32 {
			turn(bit)
			got, err := v.Read(3, 2, 7)
			if err == nil && len(got) != len(b) {
				t.Fatalf("%+v, bit %d: %d bytes", shape, bit, len(got))
			}
			if err != nil && (shape.Level > 0 || !errors.Is(err, api.ErrSpoilt)) {
				t.Fatalf("%+v, bit %d: %v", shape, bit, err)
			}
			turn(bit)
		}
		got, err := v.Read(3, 2, 7)
		if ok(t, err); !bytes.Equal(got, b) {
			t.Errorf("%+v: other bytes", shape)
		}
	}
}
