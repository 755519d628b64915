package vol

import (
	"bytes"
	"testing"

	"bedrock/api"
)

func TestRenew(t *testing.T) {
	v, l := volume(t, 2, 1, 10)
	b := []byte("head")
	renewed := func(want int) {
		t.Helper()
		n, err := v.Renew(4, 7, b)
		if ok(t, err); n != want {
			t.Fatalf("%d sectors were written, wanted %d", n, want)
		}
		marks, err := v.Marks(4)
		ok(t, err)
		for _, m := range marks {
			if m.Stamp != 7 || !bytes.Equal(m.Bytes, b) {
				t.Fatalf("%+v", m)
			}
		}
	}
	renewed(3)
	renewed(0)
	l[1].Lose(4)
	renewed(1)
	ok(t, v.Mark(4, 8, b))
	renewed(3)
	l[0].Spoil(4, 300, 5)
	l[2].Kill()
	renewed(1)
	// What is good is not written again, so that a crash cannot take it.
	ok(t, v.Flush())
	l[0].Lose(4)
	renewed(1)
	l[0].Crash([]byte{2})
	l[1].Crash([]byte{2})
	if marks, err := v.Marks(4); err != nil || len(marks) != 1 || marks[0].Disk != 1 {
		t.Fatalf("%+v, %v", marks, err)
	}
}

func TestRenewRefuses(t *testing.T) {
	v, l := volume(t, 1, 1, 10)
	_, err := v.Renew(-1, 0, make([]byte, 105))
	is(t, err, api.ErrArg)
	_, err = v.Renew(-1, 1, make([]byte, 105))
	is(t, err, api.ErrLong)
	for _, at := range []int{-1, 10} {
		_, err = v.Renew(at, 1, make([]byte, 104))
		is(t, err, api.ErrPlace)
	}
	for k := range 2 {
		l[1].Fail(k, 1)
		_, err = v.Renew(3, 1, nil)
		is(t, err, api.ErrDevice)
		l[1].Fail(0, 0)
	}
	l[0].Kill()
	l[1].Kill()
	_, err = v.Renew(3, 2, nil)
	is(t, err, api.ErrGone)
}
