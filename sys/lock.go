package sys

import (
	"cmp"
	"math"
	"slices"

	"bedrock/api"
)

// The kinds of locks.
const (
	shared = 1 + iota
	single
)

// span is bytes of a node: from from on, those ahead of to.
type span struct{ from, to int }

// endless is behind all bytes.
const endless = math.MaxInt

// lock is a lock that a process has of a node.
type lock struct {
	pid, kind int
	span
}

// want is a lock for which a process waits, and when it began to; the zero want is none.
type want struct {
	lock
	node uint64
	when int
}

func (w want) waits() bool { return w.when > 0 }

// meets tells whether two spans have bytes in common.
func (s span) meets(o span) bool { return s.from < o.to && o.from < s.to }

// touches tells whether there is nothing between two spans.
func (s span) touches(o span) bool { return s.from <= o.to && o.from <= s.to }

// against tells whether two locks stand against each other.
func (l lock) against(o lock) bool {
	return l.pid != o.pid && l.meets(o.span) && (l.kind == single || o.kind == single)
}

// spanOf is size bytes from at on; all, if size is 0.
func spanOf(at, size int) (span, error) {
	if at < 0 || size < 0 || at > api.MaxFile || size > api.MaxFile-at {
		return span{}, api.ErrArg
	}
	if size == 0 {
		return span{at, endless}, nil
	}
	return span{at, at + size}, nil
}

// Lock locks bytes, or lets the process wait for that.
func (y *Sys) Lock(pid, fd, kind, at, size int, wait bool) error {
	p, o, err := y.opening(pid, fd)
	if err != nil {
		return err
	}
	s, err := spanOf(at, size)
	switch {
	case err != nil || kind != shared && kind != single:
		return api.ErrArg
	case kind == shared && o.how&toRead == 0 || kind == single && o.how&toWrite == 0:
		return api.ErrAccess
	}
	w := want{lock: lock{pid, kind, s}, node: o.node}
	switch {
	case len(y.against(w)) == 0:
		y.grant(w)
		y.ask()
		return nil
	case !wait:
		return api.ErrAgain
	case y.deadlock(w):
		return api.ErrDeadlock
	}
	y.waits++
	w.when = y.waits
	p.want = w
	return api.ErrWaits
}

// Unlock gives up the locks on bytes.
func (y *Sys) Unlock(pid, fd, at, size int) error {
	_, o, err := y.opening(pid, fd)
	if err != nil {
		return err
	}
	s, err := spanOf(at, size)
	if err != nil {
		return err
	}
	y.giveUp(o.node, pid, s)
	y.ask()
	return nil
}

// Waits tells whether a process waits.
func (y *Sys) Waits(pid int) bool {
	p := y.procs[pid]
	return p != nil && p.want.waits()
}

// against is the processes whose locks stand against one that is wanted.
func (y *Sys) against(w want) []int {
	var l []int
	for _, o := range y.locks[w.node] {
		if w.against(o) {
			l = append(l, o.pid)
		}
	}
	return l
}

// deadlock tells whether one of those whose locks stand against w waits for the one who wants it, by whatever way.
func (y *Sys) deadlock(w want) bool {
	seen := map[int]int{}
	for todo := y.against(w); len(todo) > 0; {
		pid := todo[len(todo)-1]
		todo = todo[:len(todo)-1]
		if pid == w.pid {
			return true
		}
		if p := y.procs[pid]; seen[pid] == 0 && p.want.waits() {
			todo = append(todo, y.against(p.want)...)
		}
		seen[pid]++
	}
	return false
}

// grant lets a process have a lock, whatever it had of these bytes. Its locks of one kind that touch each other are one.
func (y *Sys) grant(w want) {
	y.giveUp(w.node, w.pid, w.span)
	var l []lock
	for _, o := range y.locks[w.node] {
		if o.pid == w.pid && o.kind == w.kind && o.touches(w.span) {
			w.span = span{min(w.from, o.from), max(w.to, o.to)}
			continue
		}
		l = append(l, o)
	}
	y.locks[w.node] = append(l, w.lock)
}

// giveUp takes the locks of a process on bytes of a node away; what is ahead of these bytes, and behind them, stays.
func (y *Sys) giveUp(node uint64, pid int, s span) {
	var l []lock
	for _, o := range y.locks[node] {
		if o.pid != pid || !o.meets(s) {
			l = append(l, o)
			continue
		}
		if o.from < s.from {
			l = append(l, lock{pid, o.kind, span{o.from, s.from}})
		}
		if s.to < o.to {
			l = append(l, lock{pid, o.kind, span{s.to, o.to}})
		}
	}
	if len(l) == 0 {
		delete(y.locks, node)
		return
	}
	y.locks[node] = l
}

// ask gives those who wait their locks, in the order in which they began to, as long as somebody gets one.
func (y *Sys) ask() {
	for got := true; got; {
		got = false
		for _, p := range y.waiting() {
			if len(y.against(p.want)) > 0 {
				continue
			}
			y.grant(p.want)
			p.want = want{}
			got = true
		}
	}
}

// waiting is the processes that wait, in the order in which they began to.
func (y *Sys) waiting() []*process {
	var l []*process
	for _, p := range y.procs {
		if p.want.waits() {
			l = append(l, p)
		}
	}
	slices.SortFunc(l, func(a, b *process) int { return cmp.Compare(a.want.when, b.want.when) })
	return l
}
