package sys

import (
	"errors"
	"slices"

	"bedrock/api"
)

// root is the directory from which all others are reached.
const root = 1

// process is one that asks: who it is, where it stands, its descriptors, and the lock for which it waits. All of it is copied with it.
type process struct {
	cred  api.Cred
	dir   uint64
	fds   [api.MaxFds]int // which opening it is, counted from 1 on (0: none)
	opens [api.MaxFds]opening
	want  want
}

// process is the process that has a number, if it does not wait.
func (y *Sys) process(pid int) (*process, error) {
	p := y.procs[pid]
	switch {
	case p == nil:
		return nil, api.ErrPid
	case p.want.waits():
		return nil, api.ErrWaits
	}
	y.guard()
	return p, nil
}

// Spawn makes a process.
func (y *Sys) Spawn(pid int, c api.Cred) error {
	if pid < 1 || y.procs[pid] != nil {
		return api.ErrPid
	}
	y.guard()
	if err := y.tree.Hold(root); err != nil {
		return err
	}
	y.procs[pid] = &process{cred: api.Cred{Uid: c.Uid, Gids: slices.Clone(c.Gids)}, dir: root}
	return nil
}

// Exit ends a process, whether it waits or not.
func (y *Sys) Exit(pid int) error {
	p := y.procs[pid]
	if p == nil {
		return api.ErrPid
	}
	y.guard()
	if err := y.change(func() (deed, error) { return y.release(p.holds()) }); err != nil {
		return err
	}
	delete(y.procs, pid)
	for node := range y.locks {
		y.giveUp(node, pid, span{0, endless})
	}
	y.ask()
	return nil
}

// Chdir lets a process stand elsewhere.
func (y *Sys) Chdir(pid int, path string) error {
	p, err := y.process(pid)
	if err != nil {
		return err
	}
	n, a, err := y.stat(p, path, true)
	if err != nil {
		return err
	}
	if a.Kind != api.Dir {
		return api.ErrNotDir
	}
	if err := y.tree.May(p.cred, n, mayPass); err != nil {
		return err
	}
	err = y.change(func() (deed, error) {
		if err := y.tree.Hold(n); err != nil {
			return deed{}, err
		}
		return y.release([]uint64{p.dir})
	})
	if err == nil {
		p.dir = n
	}
	return err
}

// holds is the nodes that a process holds, each as often as it does.
func (p *process) holds() []uint64 {
	l := []uint64{p.dir}
	for i := range p.opens {
		if p.opens[i].fds > 0 {
			l = append(l, p.opens[i].node)
		}
	}
	return l
}

// release lets nodes be held once less; those that are there no more are what is to be noted.
func (y *Sys) release(l []uint64) (deed, error) {
	for _, n := range l {
		if err := y.tree.Release(n); err != nil {
			return deed{}, err
		}
	}
	slices.Sort(l)
	d := deed{op: opFree}
	for _, n := range slices.Compact(l) {
		_, err := y.tree.Stat(n)
		switch {
		case errors.Is(err, api.ErrNode):
			d.nums = append(d.nums, n)
		case err != nil:
			return deed{}, err
		}
	}
	return d, nil
}
