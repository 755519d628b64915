package sys

import (
	"fmt"
	"math"
	"strings"
	"testing"

	"bedrock/api"
)

// Which bits an Open may have.
func TestHow(t *testing.T) {
	y, _, _ := begun(t)
	wood(t, y)
	for how := -3; how < 70; how++ {
		bad := how < 0 || how > 63 || how&3 == 0 || how&8 > 0 && how&4 == 0 || how&48 > 0 && how&2 == 0
		fd, err := y.Open(1, "/none/n", how, -1)
		want := api.ErrMissing
		if bad {
			want = api.ErrArg
		}
		if fails(t, fmt.Sprint("how ", how), err, want); fd != 0 {
			t.Errorf("descriptor %d, with an error", fd)
		}
	}
	for _, how := range []int{math.MaxInt, math.MinInt, 1 << 32, 1<<32 + 1} {
		_, err := y.Open(1, "/x", how, 0)
		is(t, err, api.ErrArg)
	}
}

func TestOpen(t *testing.T) {
	y, _, _ := begun(t)
	wood(t, y)
	ok(t, y.Mkdir(1, "/d/locked", 0o666))
	ok(t, y.Close(1, open(t, y, 1, "/d/locked/in", 7)))
	ok(t, y.Change(1, "/d/x", api.Set{What: 1, Mode: 0o604}))
	turn := y.tree.Turn()
	long := strings.Repeat("n", 401)
	for what, x := range map[string]struct {
		pid       int
		path      string
		how, mode int
		want      api.Errno
	}{
		"none":                        {1, "/none", 1, 0o666, api.ErrMissing},
		"nothing":                     {1, "", 1, 0o666, api.ErrMissing},
		"long":                        {1, long, 1, 0o666, api.ErrLong},
		"bad":                         {1, "n\x00", 1, 0o666, api.ErrName},
		"dead":                        {1, "/dead", 1, 0o666, api.ErrMissing},
		"loop":                        {1, "/loop", 1, 0o666, api.ErrLoop},
		"made, nothing":               {1, "", 5, 0o666, api.ErrMissing},
		"made, long":                  {1, long, 5, 0o666, api.ErrLong},
		"made, /":                     {1, "/d/sub/", 5, 0o666, api.ErrName},
		"made, .":                     {1, "/d/.", 5, 0o666, api.ErrName},
		"made, ..":                    {1, "..", 7, 0o666, api.ErrName},
		"made, bad":                   {1, "n\x00", 5, 0o666, api.ErrName},
		"made, in none":               {1, "/none/n", 7, 0o666, api.ErrMissing},
		"made, in a file":             {1, "/x/n", 7, 0o666, api.ErrNotDir},
		"made, wrongly":               {1, "/n", 7, 0o10000, api.ErrArg},
		"made, without rights":        {2, "/n", 7, 0o666, api.ErrAccess},
		"made, wrong without rights":  {2, "/n", 7, -1, api.ErrArg},
		"made alone, is there":        {1, "/x", 15, 0o666, api.ErrExists},
		"made alone, a dead link":     {1, "/dead", 15, 0o666, api.ErrExists},
		"made alone, a directory":     {1, "/d", 13, 0o666, api.ErrExists},
		"made alone, no way":          {2, "/d/locked/in", 15, 0o666, api.ErrExists},
		"made, is there, no way":      {2, "/d/locked/in", 7, 0o666, api.ErrAccess},
		"made, is not there, no way":  {2, "/d/locked/n", 7, 0o666, api.ErrAccess},
		"made, bad, no way":           {2, "/d/locked/n\x00", 7, 0o666, api.ErrName},
		"made, a dead link":           {1, "/dead", 7, 0o666, api.ErrMissing},
		"made, a loop":                {1, "/loop", 7, 0o666, api.ErrLoop},
		"a directory to write":        {1, "/d", 2, 0o666, api.ErrIsDir},
		"a directory to write by ann": {2, "/d/shut", 3, 0o666, api.ErrIsDir},
		"a directory to make":         {1, "/l", 6, 0o666, api.ErrIsDir},
		"a directory to cut":          {1, "/l", 18, 0o666, api.ErrIsDir},
		"to read":                     {2, "/d/shut", 1, 0o666, api.ErrAccess},
		"to write":                    {2, "/d/x", 2, 0o666, api.ErrAccess},
		"to read and write":           {2, "/d/x", 3, 0o666, api.ErrAccess},
		"to cut":                      {2, "/d/x", 18, 0o666, api.ErrAccess},
	} {
		fd, err := y.Open(x.pid, x.path, x.how, x.mode)
		if fails(t, what, err, x.want); fd != 0 {
			t.Errorf("%s: descriptor %d", what, fd)
		}
	}
	if audit(t, y); y.tree.Turn() != turn || y.tree.Held() != 1 {
		t.Error("something was changed")
	}
	for what, x := range map[string]struct {
		path string
		how  int
		node string
	}{
		"a file":               {"/d/x", 1, "/d/x"},
		"by a link":            {"/lx", 1, "/x"},
		"a directory":          {"/l", 1, "/d/sub"},
		"a directory by its /": {"/l/", 1, "/d/sub"},
		"one that is there":    {"/d/x", 5, "/d/x"},
		"a link that is there": {"/lx", 5, "/x"},
	} {
		fd := open(t, y, 2, x.path, x.how)
		if o, _ := y.procs[2].opening(fd); o.node != number(t, y, x.node) || o.place != 0 {
			t.Errorf("%s: %+v", what, o)
		}
	}
	if y.tree.Turn() != turn {
		t.Error("something was changed")
	}
}

// A file that is made may be opened as is wanted, whatever its mode; what is there is cut.
func TestMadeAndCut(t *testing.T) {
	y, _, _ := begun(t)
	wood(t, y)
	ok(t, y.Chdir(2, "/d/sub"))
	fd, err := y.Open(2, "n", 31, 0)
	ok(t, err)
	write(t, y, 2, fd, "some text")
	_, a, err := y.Stat(2, "n", false)
	if ok(t, err); a.Mode != 0 || a.Uid != 1 || a.Gid != 10 || a.Size != 9 || a.Kind != api.File {
		t.Errorf("%+v", a)
	}
	_, err = y.Open(2, "n", 1, 0)
	is(t, err, api.ErrAccess)
	ok(t, y.Change(2, "n", api.Set{What: 1, Mode: 0o6666}))
	turn := y.tree.Turn()
	_, err = y.Open(3, "/d/sub/n", 22, -1)
	ok(t, err)
	_, a, err = y.Stat(2, "n", false)
	if ok(t, err); a.Size != 0 || a.Mode != 0o666 || a.Turn != turn+1 {
		t.Errorf("%+v", a)
	}
	b, err := y.Read(2, fd, 9)
	if ok(t, err); len(b) > 0 || y.procs[2].opens[0].place != 9 {
		t.Errorf("%q", b)
	}
	_, err = y.Open(3, "/d/sub/n", 18, 0)
	if ok(t, err); y.tree.Turn() != turn+2 {
		t.Error("a cut is no turn")
	}
}

func TestDescriptors(t *testing.T) {
	y, _, _ := begun(t)
	wood(t, y)
	for want := range api.MaxFds {
		if fd := open(t, y, 1, "/x", 3); fd != want {
			t.Fatalf("descriptor %d, wanted %d", fd, want)
		}
	}
	_, err := y.Open(1, "/none", 1, 0)
	is(t, err, api.ErrMany)
	_, err = y.Open(1, "/none", 0, 0)
	is(t, err, api.ErrArg)
	_, err = y.Open(1, "/n", 7, 0o666)
	is(t, err, api.ErrMany)
	_, err = y.Dup(1, 99)
	is(t, err, api.ErrMany)
	_, err = y.Dup(1, 3)
	is(t, err, api.ErrMany)
	_, err = y.tree.Walk(boss, 1, "n", false)
	is(t, err, api.ErrMissing)
	for _, fd := range []int{20, 7, 31} {
		ok(t, y.Close(1, fd))
	}
	for _, want := range []int{7, 20, 31} {
		fd, err := y.Dup(1, 5)
		if ok(t, err); fd != want {
			t.Errorf("descriptor %d, wanted %d", fd, want)
		}
	}
	ok(t, y.Close(1, 5))
	if fd := open(t, y, 1, "/d", 1); fd != 5 {
		t.Errorf("descriptor %d", fd)
	}
	for _, fd := range []int{-1, 32, math.MaxInt, math.MinInt} {
		_, err := y.Seek(1, fd, 0, 9)
		fails(t, "Seek", err, api.ErrFd)
		_, err = y.Read(1, fd, -1)
		fails(t, "Read", err, api.ErrFd)
		_, err = y.Dup(2, fd)
		fails(t, "Dup", err, api.ErrFd)
		fails(t, "Close", y.Close(1, fd), api.ErrFd)
		fails(t, "Write", y.Write(1, fd, nil), api.ErrFd)
		fails(t, "Cut", y.Cut(1, fd, -1), api.ErrFd)
		fails(t, "Lock", y.Lock(1, fd, 9, -1, -1, false), api.ErrFd)
		fails(t, "Unlock", y.Unlock(1, fd, -1, -1), api.ErrFd)
	}
	is(t, y.Close(2, 0), api.ErrFd) // that is another one's
	audit(t, y)
	for fd := range api.MaxFds {
		ok(t, y.Close(1, fd))
	}
	if audit(t, y); y.tree.Held() != 1 {
		t.Errorf("%d nodes are held", y.tree.Held())
	}
}

// A Dup is of one opening; another Open is another one.
func TestDup(t *testing.T) {
	y, _, _ := begun(t)
	one := open(t, y, 1, "/x", 7)
	other := open(t, y, 1, "/x", 3)
	two, err := y.Dup(1, one)
	ok(t, err)
	write(t, y, 1, two, "abcdef")
	at, err := y.Seek(1, one, 0, 1)
	if ok(t, err); at != 6 {
		t.Errorf("place %d", at)
	}
	at, err = y.Seek(1, other, 0, 1)
	if ok(t, err); at != 0 {
		t.Errorf("place %d", at)
	}
	ok(t, y.Close(1, one))
	is(t, y.Write(1, one, nil), api.ErrFd)
	write(t, y, 1, two, "g")
	n := number(t, y, "/x")
	ok(t, y.Remove(1, "/x"))
	ok(t, y.Close(1, other))
	_, err = y.tree.Stat(n)
	ok(t, err)
	ok(t, y.Close(1, two))
	_, err = y.tree.Stat(n)
	is(t, err, api.ErrNode)
}

func TestSeek(t *testing.T) {
	y, _, _ := begun(t)
	fd := open(t, y, 1, "/x", 7)
	write(t, y, 1, fd, "0123456789")
	d := open(t, y, 1, "/", 1)
	for i, x := range []struct{ fd, at, whence, want int }{
		{fd, 0, 0, 0}, {fd, 7, 0, 7}, {fd, -3, 1, 4}, {fd, 0, 1, 4}, {fd, 2, 1, 6}, {fd, 0, 2, 10}, {fd, -10, 2, 0}, {fd, 5, 2, 15},
		{fd, api.MaxFile, 0, api.MaxFile}, {fd, 0, 1, api.MaxFile}, {fd, -api.MaxFile, 1, 0}, {fd, api.MaxFile - 10, 2, api.MaxFile}, {fd, 3, 0, 3}, {d, 0, 2, 0}, {d, 8, 2, 8},
	} {
		at, err := y.Seek(1, x.fd, x.at, x.whence)
		if err != nil || at != x.want {
			t.Errorf("%d: %d, %v, wanted %d", i, at, err, x.want)
		}
	}
	for i, x := range []struct{ at, whence int }{
		{-1, 0}, {-4, 1}, {-11, 2}, {api.MaxFile + 1, 0}, {api.MaxFile - 2, 1}, {api.MaxFile - 9, 2}, {0, 3}, {0, -1}, {0, math.MaxInt}, {-1, 3},
		{math.MaxInt, 0}, {math.MinInt, 0}, {math.MaxInt, 1}, {math.MinInt, 1}, {math.MaxInt, 2}, {math.MinInt, 2},
	} {
		at, err := y.Seek(1, fd, x.at, x.whence)
		if api.Tell(err) != api.ErrArg || at != 0 {
			t.Errorf("%d: %d, %v", i, at, err)
		}
	}
	at, err := y.Seek(1, fd, 0, 1)
	if ok(t, err); at != 3 {
		t.Errorf("place %d, behind errors", at)
	}
}

func TestReadAndWrite(t *testing.T) {
	y, _, _ := begun(t)
	fd := open(t, y, 1, "/x", 7)
	write(t, y, 1, fd, "hello, rows")
	_, err := y.Seek(1, fd, 3, 0)
	ok(t, err)
	for _, want := range []string{"lo", ", ", "ro", "ws", "", ""} {
		b, err := y.Read(1, fd, 2)
		if ok(t, err); string(b) != want {
			t.Errorf("%q, wanted %q", b, want)
		}
	}
	b, err := y.Read(1, fd, 0)
	if ok(t, err); len(b) > 0 {
		t.Errorf("%q", b)
	}
	for size, want := range map[int]api.Errno{-1: api.ErrArg, api.MaxIO + 1: api.ErrLong, math.MaxInt: api.ErrLong} {
		b, err := y.Read(1, fd, size)
		if fails(t, fmt.Sprint("Read ", size), err, want); b != nil {
			t.Errorf("%q, with an error", b)
		}
	}
	_, err = y.Seek(1, fd, 20, 0)
	ok(t, err)
	ok(t, y.Write(1, fd, nil))
	turn := y.tree.Turn()
	is(t, y.Write(1, fd, make([]byte, api.MaxIO+1)), api.ErrLong)
	if at, _ := y.Seek(1, fd, 0, 1); at != 20 || y.tree.Turn() != turn || turn != 2 {
		t.Errorf("place %d, turn %d", at, y.tree.Turn())
	}
	write(t, y, 1, fd, "end")
	same(t, "the file", text(t, y, "/x"), "hello, rows"+strings.Repeat("\x00", 9)+"end")
	ok(t, y.Cut(1, fd, 5))
	same(t, "the file", text(t, y, "/x"), "hello")
	if at, _ := y.Seek(1, fd, 0, 1); at != 23 {
		t.Errorf("place %d", at)
	}
	for size, want := range map[int]api.Errno{-1: api.ErrArg, api.MaxFile + 1: api.ErrLong} {
		fails(t, fmt.Sprint("Cut ", size), y.Cut(1, fd, size), want)
	}
	_, err = y.Seek(1, fd, api.MaxFile-2, 0)
	ok(t, err)
	is(t, y.Write(1, fd, []byte("abc")), api.ErrLong)
	_, err = y.Read(1, fd, 3)
	is(t, err, api.ErrLong)
	write(t, y, 1, fd, "ab")
	if at, _ := y.Seek(1, fd, 0, 1); at != api.MaxFile {
		t.Errorf("place %d", at)
	}
	is(t, y.Write(1, fd, []byte("a")), api.ErrLong)
	ok(t, y.Write(1, fd, nil))
}

// What may be done was asked when it was opened, and not again; what it was not opened for may not be done.
func TestAccessOfOpenings(t *testing.T) {
	y, _, _ := begun(t)
	wood(t, y)
	ok(t, y.Change(1, "/x", api.Set{What: 3, Mode: 0o6666, Uid: 2}))
	both, read, put := open(t, y, 2, "/x", 3), open(t, y, 2, "/x", 1), open(t, y, 2, "/x", 2)
	d := open(t, y, 2, "/d", 1)
	ok(t, y.Change(1, "/x", api.Set{What: 1, Mode: 0o6000}))
	ok(t, y.Change(1, "/d", api.Set{What: 1, Mode: 0}))
	own := open(t, y, 1, "/x", 3)
	write(t, y, 1, own, "by the boss")
	if _, a, err := y.Stat(1, "/x", false); err != nil || a.Mode != 0o6000 {
		t.Errorf("%o, %v", a.Mode, err)
	}
	write(t, y, 2, both, "by ann")
	if _, a, err := y.Stat(1, "/x", false); err != nil || a.Mode != 0 {
		t.Errorf("%o, %v", a.Mode, err)
	}
	ok(t, y.Change(1, "/x", api.Set{What: 1, Mode: 0o4000}))
	ok(t, y.Cut(2, put, 8))
	if _, a, err := y.Stat(1, "/x", false); err != nil || a.Mode != 0 {
		t.Errorf("%o, %v", a.Mode, err)
	}
	ok(t, y.Remove(1, "/x"))
	b, err := y.Read(2, read, 100)
	if ok(t, err); string(b) != "by ann b" {
		t.Errorf("%q", b)
	}
	_, err = y.Read(2, put, -1)
	is(t, err, api.ErrAccess)
	is(t, y.Write(2, read, make([]byte, api.MaxIO+1)), api.ErrAccess)
	is(t, y.Cut(2, read, -1), api.ErrAccess)
	_, err = y.Read(2, d, -1)
	is(t, err, api.ErrIsDir)
	is(t, y.Write(2, d, nil), api.ErrAccess)
	_, _, err = y.Stat(2, "/d/x", false)
	is(t, err, api.ErrAccess)
}

// At the end: the place is the size ahead of each Write, whatever comes of it.
func TestAtEnd(t *testing.T) {
	y, _, _ := begun(t)
	wood(t, y)
	ok(t, y.Change(1, "/x", api.Set{What: 1, Mode: 0o666}))
	end, fd := open(t, y, 2, "/x", 35), open(t, y, 1, "/x", 3)
	write(t, y, 1, fd, "abc")
	write(t, y, 2, end, "def")
	write(t, y, 1, fd, "D")
	write(t, y, 2, end, "gh")
	same(t, "the file", text(t, y, "/x"), "abcDefgh")
	_, err := y.Seek(2, end, 2, 0)
	ok(t, err)
	b, err := y.Read(2, end, 2)
	if ok(t, err); string(b) != "cD" {
		t.Errorf("%q", b)
	}
	place := func(want int) {
		t.Helper()
		if at, err := y.Seek(2, end, 0, 1); err != nil || at != want {
			t.Errorf("place %d, %v, wanted %d", at, err, want)
		}
	}
	is(t, y.Write(2, end, make([]byte, api.MaxIO+1)), api.ErrLong)
	place(8)
	_, err = y.Seek(2, end, 2, 0)
	ok(t, err)
	ok(t, y.Write(2, end, nil))
	place(8)
	ok(t, y.tree.SetLimit(1, 0, api.Quota{Pages: 1}))
	_, err = y.Seek(2, end, 1, 0)
	ok(t, err)
	ok(t, y.Change(1, "/x", api.Set{What: 1, Mode: 0o6777}))
	is(t, y.Write(2, end, make([]byte, 300)), api.ErrQuota)
	place(8)
	if _, a, err := y.Stat(1, "/x", false); err != nil || a.Mode != 0o6777 || a.Size != 8 {
		t.Errorf("%+v, %v", a, err)
	}
	is(t, y.Write(3, open(t, y, 3, "/x", 1), nil), api.ErrAccess)
}

// What comes out is the caller's; what goes in is not kept.
func TestOwnMemory(t *testing.T) {
	y, _, _ := begun(t)
	fd := open(t, y, 1, "/x", 7)
	b := []byte("text")
	ok(t, y.Write(1, fd, b))
	clear(b)
	for range 2 {
		_, err := y.Seek(1, fd, 0, 0)
		ok(t, err)
		got, err := y.Read(1, fd, 10)
		if ok(t, err); string(got) != "text" {
			t.Errorf("%q", got)
		}
		clear(got[:cap(got)])
	}
}
