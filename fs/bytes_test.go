package fs

import (
	"bytes"
	"testing"

	"bedrock/api"
)

// reads fails, if a file has not these bytes.
func reads(t *testing.T, f *FS, n uint64, want string) {
	t.Helper()
	b, err := f.Read(boss, n, 0, 65536)
	if ok(t, err); string(b) != want {
		t.Fatalf("%d has %.99q, wanted %.99q", n, b, want)
	}
}

func TestBytes(t *testing.T) {
	f := begin(t, false)
	x, y := creates(t, f, boss, 1, "x", api.File, 0), creates(t, f, boss, 1, "y", api.File, 0)
	ok(t, f.Write(boss, x, 0, []byte("some bytes")))
	ok(t, f.Write(boss, x, 5, []byte("other")))
	reads(t, f, x, "some other")
	ok(t, f.Clone(boss, x, 0, y, 1, 1))
	ok(t, f.Cut(boss, x, 4))
	reads(t, f, x, "some")
	ok(t, f.Punch(boss, y, 260, 3))
	reads(t, f, y, string(make([]byte, 256))+"some\x00\x00\x00her")
	if a := stat(t, f, y); a.Size != 266 || a.Pages != 1 || a.Turn != f.Turn() {
		t.Errorf("%+v", a)
	}
	if b, err := f.Read(boss, y, 257, 2); err != nil || string(b) != "om" {
		t.Errorf("%q, %v", b, err)
	}
	ok(t, f.Punch(boss, y, 0, 1<<40))
	ok(t, f.Cut(boss, x, 1<<40))
	if a, b := stat(t, f, x), stat(t, f, y); a.Size != 1<<40 || a.Pages != 1 || b.Pages != 0 || b.Size != 266 {
		t.Errorf("%+v, %+v", a, b)
	}
}

// TestBytesRights: who may read may Read, and be cloned from; who may write all else.
func TestBytesRights(t *testing.T) {
	f := begin(t, false)
	d := creates(t, f, boss, 1, "d", api.Dir, 0o777)
	x := creates(t, f, ann, d, "x", api.File, 0o642) // bob reads, others write
	free := creates(t, f, ann, d, "free", api.File, 0o666)
	for _, c := range []struct {
		c           api.Cred
		read, write error
	}{{ann, nil, nil}, {bob, nil, api.ErrAccess}, {cid, api.ErrAccess, nil}, {boss, nil, nil}} {
		for name, call := range map[string]struct {
			err  error
			want error
		}{
			"Read":       {second(f.Read(c.c, x, 0, 1)), c.read},
			"Clone":      {f.Clone(c.c, x, 0, free, 0, 1), c.read},
			"Clone to":   {f.Clone(c.c, free, 0, x, 0, 1), c.write},
			"Clone both": {f.Clone(c.c, x, 0, x, 0, 1), first(c.read, c.write)},
			"Write":      {f.Write(c.c, x, 0, []byte("a")), c.write},
			"Write none": {f.Write(c.c, x, 0, nil), c.write},
			"Cut":        {f.Cut(c.c, x, 1), c.write},
			"Punch":      {f.Punch(c.c, x, 0, 1), c.write},
		} {
			if api.Tell(call.err) != api.Tell(call.want) {
				t.Errorf("%s by %d: %v, wanted %v", name, c.c.Uid, call.err, call.want)
			}
		}
	}
}

func second(_ []byte, err error) error { return err }

func first(l ...error) error {
	for _, err := range l {
		if err != nil {
			return err
		}
	}
	return nil
}

// TestPowers: what others than user 0 write to loses the bits 6000.
func TestPowers(t *testing.T) {
	f := begin(t, false)
	d := creates(t, f, boss, 1, "d", api.Dir, 0o777)
	x, y := creates(t, f, ann, d, "x", api.File, 0o7666), creates(t, f, ann, d, "y", api.File, 0o7666)
	for _, c := range []struct {
		name string
		call func(c api.Cred) error
		lose bool
	}{
		{"Write", func(c api.Cred) error { return f.Write(c, x, 0, []byte("a")) }, true},
		{"Write none", func(c api.Cred) error { return f.Write(c, x, 9, nil) }, false},
		{"Cut", func(c api.Cred) error { return f.Cut(c, x, 1) }, true},
		{"Punch", func(c api.Cred) error { return f.Punch(c, x, 9, 9) }, true},
		{"Clone", func(c api.Cred) error { return f.Clone(c, y, 0, x, 0, 0) }, true},
		{"Read", func(c api.Cred) error { return second(f.Read(c, x, 0, 1)) }, false},
		{"SetExtra", func(c api.Cred) error { return f.SetExtra(c, x, "a", nil) }, false},
	} {
		for _, who := range []api.Cred{boss, ann, bob} {
			ok(t, f.Change(boss, x, api.Set{What: 1, Mode: 0o7666}))
			ok(t, c.call(who))
			want := 0o7666
			if c.lose && who.Uid != 0 {
				want = 0o1666
			}
			if a := stat(t, f, x); a.Mode != want {
				t.Errorf("%s by %d: %o, wanted %o", c.name, who.Uid, a.Mode, want)
			}
		}
	}
	if a := stat(t, f, y); a.Mode != 0o7666 {
		t.Errorf("what is cloned from has %o", a.Mode)
	}
}

// TestOwnMemory: what goes in is not kept, what comes out is the caller's.
func TestOwnMemory(t *testing.T) {
	f := begin(t, false)
	b, val, c := []byte("bytes"), []byte("value"), api.Cred{Gids: []int{4, 5}}
	x := creates(t, f, c, 1, "x", api.File, 0)
	ok(t, f.Write(boss, x, 0, b))
	ok(t, f.SetExtra(boss, x, "k", val))
	if string(b) != "bytes" || string(val) != "value" || c.Gids[0] != 4 || c.Gids[1] != 5 {
		t.Error("what was handed in is changed")
	}
	b[0], val[0], c.Gids[0] = 'X', 'X', 9
	want := picture(t, f)
	out, err := f.Read(boss, x, 0, 9)
	ok(t, err)
	v, err := f.Extra(boss, x, "k")
	ok(t, err)
	l, err := f.List(boss, 1, "", 9)
	ok(t, err)
	s, err := f.Extras(boss, x)
	ok(t, err)
	if stat(t, f, x).Gid != 4 || !bytes.Equal(out, []byte("bytes")) || !bytes.Equal(v, []byte("value")) {
		t.Error("what was handed in is kept")
	}
	out[0], v[0], l[0], s[0] = 'Y', 'Y', api.Entry{}, ""
	if picture(t, f) != want {
		t.Error("what was told is kept")
	}
}
