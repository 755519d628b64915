package number

import (
	"bytes"
	"testing"
)

func TestNumbers(t *testing.T) {
	for _, x := range []struct {
		n     uint64
		size  int
		bytes []byte
		back  uint64
	}{
		{0, 0, nil, 0},
		{7, 1, []byte{7}, 7},
		{0x1234, 2, []byte{0x34, 0x12}, 0x1234},
		{0x1234, 1, []byte{0x34}, 0x34},
		{0x1234, 4, []byte{0x34, 0x12, 0, 0}, 0x1234},
		{1<<64 - 2, 8, []byte{254, 255, 255, 255, 255, 255, 255, 255}, 1<<64 - 2},
	} {
		b := Append([]byte{9}, x.n, x.size)
		if b[0] != 9 || !bytes.Equal(b[1:], x.bytes) {
			t.Errorf("Append of %x: %x, wanted %x", x.n, b[1:], x.bytes)
		}
		b = bytes.Repeat([]byte{1}, x.size)
		if Put(b, x.n); !bytes.Equal(b, x.bytes) {
			t.Errorf("Put of %x: %x, wanted %x", x.n, b, x.bytes)
		}
		if got := Of(x.bytes); got != x.back {
			t.Errorf("Of %x: %x, wanted %x", x.bytes, got, x.back)
		}
	}
}
