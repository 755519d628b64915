package sys

import (
	"fmt"
	"math/rand"
	"slices"
	"strings"
	"testing"

	"bedrock/api"
	"bedrock/pool"
	"bedrock/snap"
)

// pair is a system whose disks fail and crash, and one of other disks, to which nothing ever happens: both are asked the same.
type pair struct {
	*testing.T
	r         *rand.Rand
	shape     api.Shape
	disks     []*api.Disk
	gone      int
	sets, own *snap.Sets // of the first one, of the second one
	y, z      *Sys
	past      []string // what the tree was behind each call, reaped
	safe      int      // from which one of these on it must be
	calls     map[string]int
}

func newPair(t *testing.T, seed int64, shape api.Shape) *pair {
	t.Helper()
	w := &pair{T: t, r: rand.New(rand.NewSource(seed)), shape: shape, disks: disks(shape, 1<<14), calls: map[string]int{}}
	w.sets = formatted(t, w.disks, shape)
	w.own = formatted(t, disks(mirror, 1<<16), mirror)
	for _, s := range []*snap.Sets{w.sets, w.own} {
		f, err := s.Tree("a")
		ok(t, err)
		ok(t, f.Change(boss, 1, api.Set{What: 1, Mode: 0o777}))
		ok(t, f.SetLimit(1, 1, api.Quota{Nodes: 6, Pages: 12}))
	}
	w.y, w.z = mounted(t, w.sets, "a"), mounted(t, w.own, "a")
	w.keep()
	return w
}

// keep notes what the tree is: a snapshot of the second one, by its number.
func (w *pair) keep() {
	ok(w.T, w.own.Snap("a", fmt.Sprint(len(w.past))))
	w.past = append(w.past, reaped(w.T, w.z.Tree()))
}

func (w *pair) name() string { return []string{"a", "b", "c", "D", "e"}[w.r.Intn(5)] }

func (w *pair) path() string {
	var l []string
	for range w.r.Intn(3) {
		l = append(l, []string{w.name(), "..", "."}[min(w.r.Intn(9)/3, 2)])
	}
	out := strings.Join(append(l, w.name()), "/")
	switch w.r.Intn(12) {
	case 0:
		return "/" + out + "/"
	case 1:
		return []string{"", "/", "..", "n\x00", strings.Repeat("/x", 201)}[w.r.Intn(5)]
	case 2, 3:
		return out
	}
	return "/" + out
}

// call is something that is asked of both; what it tells is a text.
type call struct {
	name string
	ask  func(y *Sys) (string, error)
}

// next is a call of one of the processes.
func (w *pair) next() call {
	r := w.r
	pid, fd := 1+r.Intn(4), r.Intn(3)
	path, as, n := w.path(), w.path(), r.Intn(1500)
	mode := []int{0o777, 0o666, 0o6755, 0o600, 0o2770, 0o1777}[r.Intn(6)]
	none := func(name string, ask func(y *Sys) error) call {
		return call{name, func(y *Sys) (string, error) { return "", ask(y) }}
	}
	num := func(name string, ask func(y *Sys) (int, error)) call {
		return call{name, func(y *Sys) (string, error) { k, err := ask(y); return fmt.Sprint(k), err }}
	}
	switch r.Intn(26) {
	case 0:
		return none("Spawn", func(y *Sys) error { return y.Spawn(pid, []api.Cred{boss, ann, bob, boss}[pid-1]) })
	case 1:
		if r.Intn(3) == 0 {
			return none("Exit", func(y *Sys) error { return y.Exit(pid) })
		}
		return none("Chdir", func(y *Sys) error { return y.Chdir(pid, path) })
	case 2, 3, 4, 5:
		how := []int{1, 3, 7, 7, 7, 39, 23, 15, 19, r.Intn(66)}[r.Intn(10)]
		return num("Open", func(y *Sys) (int, error) { return y.Open(pid, path, how, mode) })
	case 6:
		return none("Close", func(y *Sys) error { return y.Close(pid, fd) })
	case 7:
		return num("Dup", func(y *Sys) (int, error) { return y.Dup(pid, fd) })
	case 8:
		return num("Seek", func(y *Sys) (int, error) { return y.Seek(pid, fd, n-700, r.Intn(1)+n%4) })
	case 9:
		return call{"Read", func(y *Sys) (string, error) { b, err := y.Read(pid, fd, n); return string(b), err }}
	case 10, 11, 12, 13:
		size := []int{5, 50, 300, 90}[r.Intn(4)]
		if r.Intn(30) == 0 {
			size = 2500
		}
		b := []byte(strings.Repeat(fmt.Sprint(len(w.past), " "), size/2))
		return none("Write", func(y *Sys) error { return y.Write(pid, fd, b) })
	case 14:
		return none("Cut", func(y *Sys) error { return y.Cut(pid, fd, n) })
	case 15, 16:
		return none("Mkdir", func(y *Sys) error { return y.Mkdir(pid, path, mode) })
	case 17:
		return none("Symlink", func(y *Sys) error { return y.Symlink(pid, as, path) })
	case 18:
		return none("Link", func(y *Sys) error { return y.Link(pid, path, as) })
	case 19, 20:
		return none("Remove", func(y *Sys) error { return y.Remove(pid, path) })
	case 21, 22:
		return none("Rename", func(y *Sys) error { return y.Rename(pid, path, as, n%3) })
	case 23:
		how := api.Set{What: r.Intn(16), Mode: mode, Uid: r.Intn(3), Gid: 10 + r.Intn(2), Project: r.Intn(2)}
		return none("Change", func(y *Sys) error { return y.Change(pid, path, how) })
	case 24:
		wait := r.Intn(3) == 0
		return none("Lock", func(y *Sys) error { return y.Lock(pid, fd, 1+n%2, n%7, n%5, wait) })
	}
	if r.Intn(2) == 0 {
		return none("Unlock", func(y *Sys) error { return y.Unlock(pid, fd, n%7, n%9) })
	}
	return call{"Stat", func(y *Sys) (string, error) {
		n, a, err := y.Stat(pid, path, mode == 0o777)
		return fmt.Sprint(n, a, y.Waits(pid)), err
	}}
}

// down tells whether behind that error nothing more is asked.
func down(err error) bool {
	e := api.Tell(err)
	return e == api.ErrDevice || e == api.ErrGone || e == api.ErrDown
}

// do asks both the same, and tells whether it went well.
func (w *pair) do() bool {
	c := w.next()
	got, err := c.ask(w.y)
	want, wrong := c.ask(w.z)
	w.keep()
	if down(err) {
		return false
	}
	if api.Tell(err) != api.Tell(wrong) || got != want {
		w.Fatalf("%s: %q, %v, wanted %q, %v", c.name, got, err, want, wrong)
	}
	if err == nil {
		w.calls[c.name]++
	}
	if w.y.Tree().Held() != w.z.Tree().Held() || w.y.Tree().Turn() != w.z.Tree().Turn() {
		w.Fatalf("behind %s: another tree", c.name)
	}
	return true
}

// sync lets what was done last, of the first one alone.
func (w *pair) sync() bool {
	var err error
	switch w.r.Intn(8) {
	case 0:
		err = w.sets.Commit()
	case 1:
		s := w.sets
		if l, _ := s.Snaps("a"); len(l) > 3 {
			err = s.DropSnap("a", l[0])
		} else {
			err = s.Snap("a", fmt.Sprint("s", len(l), w.r.Intn(1<<30)))
		}
		if err == nil {
			err = w.y.Sync()
		}
	default:
		err = w.y.Sync()
	}
	if err != nil && !down(err) {
		w.Fatal(err)
	}
	if err == nil {
		w.safe = len(w.past) - 1
	}
	return err == nil
}

// fail lets disks fail from some operation on.
func (w *pair) fail(most int) {
	for _, d := range w.disks {
		if w.r.Intn(3) > 0 {
			d.Fail(w.r.Intn(most), 1<<30)
		}
	}
}

func (w *pair) fates() []byte {
	l := make([]byte, w.r.Intn(6))
	w.r.Read(l)
	return l
}

// crash lets all disks crash, and takes all up again, while the disks may fail and crash again.
func (w *pair) crash() {
	if w.gone < w.shape.Level && w.r.Intn(4) == 0 {
		w.disks[w.r.Intn(len(w.disks))].Kill()
		w.gone++
	}
	for try := 0; ; try++ {
		for _, d := range w.disks {
			d.Crash(w.fates())
		}
		if try < 3 && w.r.Intn(2) > 0 {
			w.fail(200)
		}
		p, err := pool.Open(slices.Clone(w.disks), w.shape)
		if err == nil {
			w.sets, err = snap.Open(p)
		}
		if err == nil {
			w.y, err = Mount(w.sets, []string{"a", "b"}[min(1, w.r.Intn(6)/5)])
		}
		if err == nil {
			break
		}
		if !down(err) || try > 3 {
			w.Fatal(err)
		}
	}
	for _, d := range w.disks {
		d.Fail(0, 0)
	}
	if f, err := w.sets.Tree("a"); err != nil || w.y.Tree() != f {
		ok(w.T, err)
		ok(w.T, w.y.Unmount())
		w.y = mounted(w.T, w.sets, "a")
	}
}

// found holds what is there behind a crash against the past, and lets the second one be that.
func (w *pair) found() {
	got := picture(w.y.Tree())
	i := len(w.past) - 1
	for i >= w.safe && w.past[i] != got {
		i--
	}
	if i < w.safe {
		w.Fatalf("behind a crash it is none of the last %d: %s\nwanted %s", len(w.past)-w.safe, got, strings.Join(w.past[w.safe:], "\nor "))
	}
	ok(w.T, w.z.Unmount())
	ok(w.T, w.own.Rollback("a", fmt.Sprint(i)))
	for k := range w.past {
		ok(w.T, w.own.DropSnap("a", fmt.Sprint(k)))
	}
	w.z = mounted(w.T, w.own, "a")
	w.past, w.safe = nil, 0
	w.keep()
}

// dropped takes all sets away: no row is lost.
func (w *pair) dropped() {
	ok(w.T, w.y.Unmount())
	l, err := w.sets.Snaps("a")
	ok(w.T, err)
	for _, name := range l {
		ok(w.T, w.sets.DropSnap("a", name))
	}
	ok(w.T, w.sets.Drop("a"))
	ok(w.T, w.sets.Drop("b"))
	for range w.sets.Pool().Blocks() {
		w.Fatal("a block is lost")
	}
}

// Behind a crash the tree is as it was behind some of the calls, those ahead of the last Sync among them; and both systems tell the same, on however many disks.
func TestCrashes(t *testing.T) {
	t.Parallel()
	shapes := []api.Shape{{Data: 1}, mirror, {Data: 2, Level: 1}, {Data: 1, Level: 2}, {Data: 4, Level: 2}}
	calls := map[string]int{}
	for seed := range int64(40) {
		w := newPair(t, seed, shapes[seed%int64(len(shapes))])
		w.calls = calls
		for range 8 {
			for pid := range 4 {
				for _, y := range []*Sys{w.y, w.z} {
					y.Spawn(pid+1, []api.Cred{boss, ann, bob, boss}[pid])
				}
			}
			if w.r.Intn(5) > 0 {
				w.fail([]int{10, 100, 400}[w.r.Intn(3)])
			}
			good := true
			for k := 0; good && k < 85; k++ {
				if good = w.do(); good && w.r.Intn(9) == 0 {
					good = w.sync()
				}
			}
			if audit(t, w.z); good && w.r.Intn(4) == 0 && w.y.Unmount() == nil {
				w.safe = len(w.past) - 1
			}
			w.crash()
			w.found()
		}
		w.dropped()
	}
	for _, name := range []string{"Spawn", "Exit", "Chdir", "Open", "Close", "Dup", "Seek", "Read", "Write", "Cut", "Mkdir", "Symlink", "Link", "Remove", "Rename", "Change", "Lock", "Unlock", "Stat"} {
		if calls[name] < 10 {
			t.Errorf("%s went well %d times", name, calls[name])
		}
	}
}
