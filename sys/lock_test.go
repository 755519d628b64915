package sys

import (
	"fmt"
	"math"
	"math/rand"
	"slices"
	"testing"

	"bedrock/api"
)

// locked is a system in which the processes 1 to n, all of the boss, have a file open.
func locked(t *testing.T, n int) *Sys {
	t.Helper()
	y := mounted(t, formatted(t, disks(mirror, 2000), mirror), "a")
	for pid := 1; pid <= n; pid++ {
		ok(t, y.Spawn(pid, boss))
		open(t, y, pid, "/x", 7)
	}
	return y
}

// waits: just these processes wait.
func waits(t *testing.T, y *Sys, l ...int) {
	t.Helper()
	for pid := range 20 {
		if y.Waits(pid) != slices.Contains(l, pid) {
			t.Fatalf("%d waits: %v", pid, y.Waits(pid))
		}
	}
	audit(t, y)
}

// The document's twelfth example.
func TestExample(t *testing.T) {
	y := locked(t, 3)
	ok(t, y.Lock(1, 0, 1, 0, 10, true))
	ok(t, y.Lock(2, 0, 1, 5, 10, true))
	is(t, y.Lock(3, 0, 2, 9, 1, true), api.ErrWaits)
	is(t, y.Lock(2, 0, 2, 0, 1, true), api.ErrWaits)
	is(t, y.Lock(1, 0, 2, 14, 1, true), api.ErrDeadlock)
	waits(t, y, 2, 3)
	ok(t, y.Unlock(1, 0, 0, 0))
	waits(t, y, 3)
	is(t, y.Lock(1, 0, 1, 0, 1, false), api.ErrAgain)
	ok(t, y.Close(2, 0))
	waits(t, y)
	is(t, y.Lock(1, 0, 1, 9, 1, false), api.ErrAgain)
}

func TestLockRefuses(t *testing.T) {
	y := locked(t, 2)
	r, w := open(t, y, 1, "/x", 1), open(t, y, 1, "/x", 2)
	d := open(t, y, 1, "/", 1)
	for i, x := range []struct {
		fd, kind, at, size int
		want               api.Errno
	}{
		{0, 0, 0, 0, api.ErrArg}, {0, 3, 0, 0, api.ErrArg}, {0, -1, 0, 0, api.ErrArg}, {0, 1, -1, 0, api.ErrArg}, {0, 1, 0, -1, api.ErrArg},
		{0, 1, api.MaxFile, 1, api.ErrArg}, {0, 1, 1, api.MaxFile, api.ErrArg}, {0, 2, api.MaxFile + 1, 0, api.ErrArg},
		{0, 2, math.MaxInt, math.MaxInt, api.ErrArg}, {0, 2, 5, math.MaxInt, api.ErrArg}, {0, 2, math.MinInt, math.MinInt, api.ErrArg},
		{r, 2, 0, 0, api.ErrAccess}, {w, 1, 0, 0, api.ErrAccess}, {d, 2, 0, 0, api.ErrAccess}, {r, 3, 0, 0, api.ErrArg}, {w, 1, -1, 0, api.ErrArg}, {9, 3, -1, 0, api.ErrFd},
		{0, 1, api.MaxFile, 0, 0}, {0, 1, 0, api.MaxFile, 0}, {0, 2, api.MaxFile - 1, 1, 0}, {r, 1, 0, 0, 0}, {w, 2, 0, 0, 0}, {d, 1, 0, 0, 0},
	} {
		fails(t, fmt.Sprint("Lock ", i), y.Lock(1, x.fd, x.kind, x.at, x.size, true), x.want)
		if x.want == api.ErrArg && x.at|x.size != 0 && (x.kind == 1 || x.kind == 2) {
			fails(t, fmt.Sprint("Unlock ", i), y.Unlock(1, x.fd, x.at, x.size), api.ErrArg)
		}
	}
	is(t, y.Unlock(1, 9, -1, 0), api.ErrFd)
	ok(t, y.Unlock(1, r, 0, 0)) // whatever it was opened for
	ok(t, y.Lock(2, 0, 2, 0, 0, false))
	waits(t, y)
}

// Locks are of a node, whatever descriptor they came by; they go with the process's last opening of it.
func TestLocksOfNodes(t *testing.T) {
	y := locked(t, 3)
	ok(t, y.Link(1, "/x", "/y"))
	other, two := open(t, y, 1, "/y", 7), open(t, y, 1, "/two", 7)
	dup, err := y.Dup(1, 0)
	ok(t, err)
	ok(t, y.Lock(1, other, 2, 0, 5, false))
	ok(t, y.Lock(1, two, 2, 0, 5, false))
	is(t, y.Lock(2, 0, 2, 4, 5, true), api.ErrWaits)
	ok(t, y.Close(1, 0))
	waits(t, y, 2)
	ok(t, y.Close(1, other))
	waits(t, y, 2)
	ok(t, y.Close(1, dup))
	waits(t, y)
	ok(t, y.Lock(3, open(t, y, 3, "/two", 7), 1, 5, 0, false))
	is(t, y.Lock(3, open(t, y, 3, "/two", 7), 1, 4, 0, false), api.ErrAgain)
	ok(t, y.Exit(1))
	ok(t, y.Lock(3, open(t, y, 3, "/two", 7), 1, 4, 0, false))
	if len(y.locks) != 2 {
		t.Errorf("locks of %d nodes", len(y.locks))
	}
	ok(t, y.Exit(2))
	ok(t, y.Exit(3))
	if len(y.locks) != 0 {
		t.Errorf("locks of %d nodes", len(y.locks))
	}
}

// A process's own locks never stand against it; they become what it locks last.
func TestOwnLocks(t *testing.T) {
	y := locked(t, 2)
	ok(t, y.Lock(1, 0, 2, 0, 100, false))
	ok(t, y.Lock(1, 0, 1, 20, 20, false))
	ok(t, y.Unlock(1, 0, 60, 10))
	for at, want := range map[int][2]api.Errno{
		0: {api.ErrAgain, api.ErrAgain}, 19: {api.ErrAgain, api.ErrAgain}, 20: {0, api.ErrAgain}, 39: {0, api.ErrAgain}, 40: {api.ErrAgain, api.ErrAgain},
		59: {api.ErrAgain, api.ErrAgain}, 60: {0, 0}, 69: {0, 0}, 70: {api.ErrAgain, api.ErrAgain}, 99: {api.ErrAgain, api.ErrAgain}, 100: {0, 0},
	} {
		for kind := range 2 {
			fails(t, fmt.Sprint(at, " ", kind+1), y.Lock(2, 0, kind+1, at, 1, false), want[kind])
			ok(t, y.Unlock(2, 0, 0, 0))
		}
	}
	for at := range 1000 {
		ok(t, y.Lock(1, 0, 2, (at*7)%1000, 1, false))
	}
	if l := y.locks[number(t, y, "/x")]; len(l) != 1 {
		t.Errorf("%d locks of all bytes alike", len(l))
	}
}

// A lock that becomes shared lets others go on; one who goes on may let others do so, too.
func TestGoOn(t *testing.T) {
	y := locked(t, 5)
	ok(t, y.Lock(1, 0, 2, 0, 10, false))
	ok(t, y.Lock(2, 0, 2, 20, 10, false))
	is(t, y.Lock(3, 0, 1, 25, 1, true), api.ErrWaits)  // for 2
	is(t, y.Lock(2, 0, 1, 0, 40, true), api.ErrWaits)  // for 1; it would share what it has
	is(t, y.Lock(4, 0, 1, 5, 1, true), api.ErrWaits)   // for 1
	is(t, y.Lock(5, 0, 2, 25, 20, true), api.ErrWaits) // for 2
	ok(t, y.Lock(1, 0, 1, 0, 5, false))
	waits(t, y, 2, 3, 4, 5)
	ok(t, y.Lock(1, 0, 1, 0, 10, false))
	waits(t, y, 5) // 2 and 4 go on in the first round, 3 in the next one
	ok(t, y.Unlock(3, 0, 0, 0))
	waits(t, y, 5)
	ok(t, y.Unlock(2, 0, 0, 0))
	waits(t, y)
}

// Who began to wait first is asked first.
func TestOrder(t *testing.T) {
	for seed := range int64(30) {
		r := rand.New(rand.NewSource(seed))
		y := locked(t, 9)
		ok(t, y.Lock(9, 0, 2, 0, 0, false))
		order := r.Perm(8)
		for _, i := range order {
			is(t, y.Lock(i+1, 0, 2, 3, 1, true), api.ErrWaits)
		}
		ok(t, y.Exit(9))
		left := []int{}
		for _, i := range order {
			left = append(left, i+1)
		}
		for len(left) > 0 {
			waits(t, y, left[1:]...)
			if r.Intn(2) > 0 && len(left) > 1 { // one that waits ends
				k := 1 + r.Intn(len(left)-1)
				ok(t, y.Exit(left[k]))
				left = slices.Delete(left, k, k+1)
				continue
			}
			ok(t, y.Unlock(left[0], 0, 3, 1))
			left = left[1:]
		}
	}
}

// bytesOf is a naive model of locks: what each process has of each of some bytes, and for what it waits.
type bytesOf struct {
	has  map[int]*[models][31]int // by the process, the node and the byte: the kind
	want map[int]*naive
	when int
}

const models = 2

type naive struct{ node, kind, from, to, when int }

func (m *bytesOf) against(pid int, w naive) []int {
	var l []int
	for other := 1; other <= 6; other++ {
		if other == pid || m.has[other] == nil {
			continue
		}
		for i := w.from; i < w.to; i++ {
			if k := m.has[other][w.node][i]; k > 0 && (k == 2 || w.kind == 2) {
				l = append(l, other)
				break
			}
		}
	}
	return l
}

func (m *bytesOf) set(pid int, w naive, kind int) {
	for i := w.from; i < w.to; i++ {
		m.has[pid][w.node][i] = kind
	}
}

// waitsFor tells whether a process waits for another one, in so many steps at most.
func (m *bytesOf) waitsFor(pid, whom, steps int) bool {
	w := m.want[pid]
	if w == nil || steps == 0 {
		return false
	}
	for _, other := range m.against(pid, *w) {
		if other == whom || m.waitsFor(other, whom, steps-1) {
			return true
		}
	}
	return false
}

func (m *bytesOf) ask() {
	for got := true; got; {
		got = false
		for when := range m.when + 1 {
			for pid, w := range m.want {
				if w.when == when && len(m.against(pid, *w)) == 0 {
					m.set(pid, *w, w.kind)
					delete(m.want, pid)
					got = true
				}
			}
		}
	}
}

func (m *bytesOf) lock(pid int, w naive, wait bool) api.Errno {
	l := m.against(pid, w)
	switch {
	case len(l) == 0:
		m.set(pid, w, w.kind)
		m.ask()
		return api.OK
	case !wait:
		return api.ErrAgain
	}
	for _, other := range l {
		if m.waitsFor(other, pid, 6) {
			return api.ErrDeadlock
		}
	}
	m.when++
	w.when = m.when
	m.want[pid] = &w
	return api.ErrWaits
}

// Locks are what a model of single bytes is.
func TestLockModel(t *testing.T) {
	met := map[api.Errno]int{}
	for seed := range int64(60) {
		r := rand.New(rand.NewSource(seed))
		y := mounted(t, formatted(t, disks(mirror, 2000), mirror), "a")
		m := &bytesOf{has: map[int]*[models][31]int{}, want: map[int]*naive{}}
		for range 400 {
			pid := 1 + r.Intn(6)
			if m.has[pid] == nil {
				ok(t, y.Spawn(pid, boss))
				for i := range models {
					open(t, y, pid, fmt.Sprint("/", i), 7)
				}
				m.has[pid] = &[models][31]int{}
			}
			w := naive{node: r.Intn(models), kind: 1 + r.Intn(2), from: r.Intn(30)}
			size := r.Intn(31 - w.from)
			if w.to = w.from + size; size == 0 {
				w.to = 31 // the last one stands for all behind it
			}
			var err error
			want := api.OK
			switch k := r.Intn(20); {
			case k < 11:
				wait := r.Intn(4) > 0
				err = y.Lock(pid, w.node, w.kind, w.from, size, wait)
				if want = api.ErrWaits; m.want[pid] == nil {
					want = m.lock(pid, w, wait)
				}
			case k < 17:
				err = y.Unlock(pid, w.node, w.from, size)
				if want = api.ErrWaits; m.want[pid] == nil {
					want = api.OK
					m.set(pid, w, 0)
					m.ask()
				}
			case k < 19:
				err = y.Close(pid, w.node)
				if want = api.ErrWaits; m.want[pid] == nil {
					want = api.OK
					m.set(pid, naive{node: w.node, to: 31}, 0)
					m.ask()
					open(t, y, pid, fmt.Sprint("/", w.node), 7)
				}
			default:
				err = y.Exit(pid)
				delete(m.has, pid)
				delete(m.want, pid)
				m.ask()
			}
			met[want]++
			if api.Tell(err) != want {
				t.Fatalf("%v, wanted %v", err, want)
			}
			for pid := 1; pid <= 6; pid++ {
				if y.Waits(pid) != (m.want[pid] != nil) {
					t.Fatalf("%d waits: %v", pid, y.Waits(pid))
				}
			}
			audit(t, y)
			m.hold(t, y)
		}
	}
	for _, e := range []api.Errno{api.OK, api.ErrAgain, api.ErrWaits, api.ErrDeadlock} {
		if met[e] < 20 {
			t.Errorf("%v came %d times", e, met[e])
		}
	}
}

// hold holds the locks of a system against the model.
func (m *bytesOf) hold(t *testing.T, y *Sys) {
	t.Helper()
	got := map[int]*[models][31]int{}
	for pid := range m.has {
		got[pid] = &[models][31]int{}
	}
	for i := range models {
		n, err := y.tree.Walk(boss, 1, fmt.Sprint(i), false)
		ok(t, err)
		for _, l := range y.locks[n] {
			for at := l.from; at < min(l.to, 31); at++ {
				got[l.pid][i][at] = l.kind
			}
		}
	}
	for pid, has := range m.has {
		if *got[pid] != *has {
			t.Fatalf("%d has %v, wanted %v", pid, *got[pid], *has)
		}
	}
}
