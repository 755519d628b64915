package sys

import (
	"errors"
	"strings"

	"bedrock/api"
)

// linkMode is the Mode of all links.
const linkMode = 0o777

// walk is the node to which a path leads for a process.
func (y *Sys) walk(p *process, path string, follow bool) (uint64, error) {
	return y.tree.Walk(p.cred, p.dir, path, follow)
}

// stat is the node to which a path leads, and what it is.
func (y *Sys) stat(p *process, path string, follow bool) (uint64, api.Attr, error) {
	n, err := y.walk(p, path, follow)
	if err != nil {
		return 0, api.Attr{}, err
	}
	a, err := y.tree.Stat(n)
	if err != nil {
		return 0, api.Attr{}, err
	}
	return n, a, nil
}

// Stat tells the node to which a path leads, and what it is.
func (y *Sys) Stat(pid int, path string, follow bool) (uint64, api.Attr, error) {
	p, err := y.process(pid)
	if err != nil {
		return 0, api.Attr{}, err
	}
	return y.stat(p, path, follow)
}

// spot is a name in a directory.
type spot struct {
	dir  uint64
	name string
}

// spot is where what a path tells is, or is to be.
func (y *Sys) spot(p *process, path string) (spot, error) {
	switch {
	case len(path) > api.MaxPath:
		return spot{}, api.ErrLong
	case path == "":
		return spot{}, api.ErrMissing
	}
	cut := strings.LastIndexByte(path, '/') + 1
	head, at := strings.TrimRight(path[:cut], "/"), spot{p.dir, path[cut:]}
	var err error
	switch {
	case at.name == "" || at.name == "." || at.name == "..":
		return spot{}, api.ErrName
	case head != "":
		at.dir, err = y.walk(p, head, true)
	case cut > 0:
		at.dir = root
	}
	return at, err
}

// has is the node that has a name (0: none has), whoever may know.
func (y *Sys) has(at spot) (uint64, error) {
	n, err := y.known.Walk(api.Cred{}, at.dir, at.name, false)
	if errors.Is(err, api.ErrMissing) || errors.Is(err, api.ErrNotDir) || errors.Is(err, api.ErrName) {
		return 0, nil
	}
	return n, err
}

// create makes a node.
func (y *Sys) create(p *process, at spot, what api.New) (uint64, deed, error) {
	n, err := y.tree.Create(p.cred, at.dir, at.name, what)
	return n, newDeed(p.cred, at, what), err
}

// place makes a node where a path tells.
func (y *Sys) place(pid int, path string, what api.New) error {
	p, err := y.process(pid)
	if err != nil {
		return err
	}
	at, err := y.spot(p, path)
	if err != nil {
		return err
	}
	return y.change(func() (deed, error) {
		_, d, err := y.create(p, at, what)
		return d, err
	})
}

// Mkdir makes a directory.
func (y *Sys) Mkdir(pid int, path string, mode int) error {
	return y.place(pid, path, api.New{Kind: api.Dir, Mode: mode})
}

// Symlink makes a link.
func (y *Sys) Symlink(pid int, target, path string) error {
	return y.place(pid, path, api.New{Kind: api.Link, Mode: linkMode, Target: target})
}

// Link gives a node one more name.
func (y *Sys) Link(pid int, path, as string) error {
	p, err := y.process(pid)
	if err != nil {
		return err
	}
	n, err := y.walk(p, path, false)
	if err != nil {
		return err
	}
	at, err := y.spot(p, as)
	if err != nil {
		return err
	}
	return y.change(func() (deed, error) {
		return linkDeed(n, at), y.tree.Link(p.cred, n, at.dir, at.name)
	})
}

// Remove takes a name away.
func (y *Sys) Remove(pid int, path string) error {
	p, err := y.process(pid)
	if err != nil {
		return err
	}
	at, err := y.spot(p, path)
	if err != nil {
		return err
	}
	return y.change(func() (deed, error) {
		stays, err := y.lose(at, func() error { return y.tree.Remove(p.cred, at.dir, at.name) })
		return removeDeed(at, stays), err
	})
}

// Rename moves what has a name, or calls it otherwise.
func (y *Sys) Rename(pid int, path, as string, how int) error {
	p, err := y.process(pid)
	if err != nil {
		return err
	}
	at, err := y.spot(p, path)
	if err != nil {
		return err
	}
	to, err := y.spot(p, as)
	if err != nil {
		return err
	}
	return y.change(func() (deed, error) {
		stays, err := y.lose(to, func() error { return y.tree.Rename(p.cred, at.dir, at.name, to.dir, to.name, how) })
		return renameDeed(at, to, how, stays), err
	})
}

// lose lets do change names, and tells whether the node that has that one stays, though it has none any more (0: it does not).
func (y *Sys) lose(at spot, do func() error) (uint64, error) {
	n, err := y.has(at)
	if err != nil {
		return 0, err
	}
	if err := do(); err != nil || n == 0 {
		return 0, err
	}
	a, err := y.tree.Stat(n)
	switch {
	case errors.Is(err, api.ErrNode):
		return 0, nil
	case err != nil || a.Links > 0:
		return 0, err
	}
	return n, nil
}

// Change changes what is told of a node.
func (y *Sys) Change(pid int, path string, how api.Set) error {
	p, err := y.process(pid)
	if err != nil {
		return err
	}
	n, err := y.walk(p, path, true)
	if err != nil {
		return err
	}
	return y.change(func() (deed, error) {
		return changeDeed(p.cred, n, how), y.tree.Change(p.cred, n, how)
	})
}
