package number

import (
	"bytes"
	"testing"

	"bedrock/api"
)

func TestNumbers(t *testing.T) {
	for _, x := range []struct {
		n     uint64
		size  int
		bytes []byte
		back  uint64
	}{
		{0, 0, nil, 0},
		{7, 1, []byte{7}, 7},
		{0x1234, 2, []byte{0x34, 0x12}, 0x1234},
		{0x1234, 1, []byte{0x34}, 0x34},
		{0x1234, 4, []byte{0x34, 0x12, 0, 0}, 0x1234},
		{1<<64 - 2, 8, []byte{254, 255, 255, 255, 255, 255, 255, 255}, 1<<64 - 2},
	} {
		b := Append([]byte{9}, x.n, x.size)
		if b[0] != 9 || !bytes.Equal(b[1:], x.bytes) {
			t.Errorf("Append of %x: %x, wanted %x", x.n, b[1:], x.bytes)
		}
		b = bytes.Repeat([]byte{1}, x.size)
		if Put(b, x.n); !bytes.Equal(b, x.bytes) {
			t.Errorf("Put of %x: %x, wanted %x", x.n, b, x.bytes)
		}
		if got := Of(x.bytes); got != x.back {
			t.Errorf("Of %x: %x, wanted %x", x.bytes, got, x.back)
		}
	}
}

func TestPtrs(t *testing.T) {
	for _, x := range []api.Ptr{{}, {At: 68, Len: 1, Stamp: 1}, {At: 0x12345678, Len: 0x1000, Stamp: 1<<64 - 2}, {At: 1<<32 - 1, Len: 1<<16 - 1, Stamp: 1<<64 - 1}} {
		b := AppendPtr([]byte{9}, x)
		if len(b) != 1+PtrSize || b[0] != 9 || PtrOf(b[1:]) != x {
			t.Errorf("%v: %x, which is %v", x, b, PtrOf(b[1:]))
		}
	}
	want := []byte{0x78, 0x56, 0x34, 0x12, 0xbc, 0x9a, 8, 7, 6, 5, 4, 3, 2, 1}
	if b := AppendPtr(nil, api.Ptr{At: 0x12345678, Len: 0x9abc, Stamp: 0x0102030405060708}); !bytes.Equal(b, want) {
		t.Errorf("%x, wanted %x", b, want)
	}
}
