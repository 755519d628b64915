package fs

import (
	"slices"
	"strings"

	"bedrock/api"
	"bedrock/dir"
)

// Walk tells the node to which a path leads.
func (f *FS) Walk(c api.Cred, from uint64, path string, follow bool) (uint64, error) {
	_, err := f.item(from)
	switch {
	case err != nil:
		return 0, err
	case len(path) > api.MaxPath:
		return 0, api.ErrLong
	case path == "":
		return 0, api.ErrMissing
	}
	at, rest := start(from, path), parts(path)
	for links := 0; len(rest) > 0; {
		e, err := f.step(c, at, rest[0])
		if err != nil {
			return 0, err
		}
		rest = rest[1:]
		if e.Kind != api.Link || len(rest) == 0 && !follow {
			at = e.Node
			continue
		}
		if links++; links > api.MaxFollow {
			return 0, api.ErrLoop
		}
		target, err := f.target(e.Node)
		if err != nil {
			return 0, err
		}
		at, rest = start(at, target), slices.Concat(parts(target), rest)
	}
	return at, nil
}

// start is where a path begins that is taken from a node on.
func start(from uint64, path string) uint64 {
	if strings.HasPrefix(path, "/") {
		return root
	}
	return from
}

// parts is the parts of a path, one behind the other.
func parts(path string) []string {
	if strings.HasSuffix(path, "/") {
		path += "."
	}
	return strings.FieldsFunc(path, func(r rune) bool { return r == '/' })
}

// step is what a part of a path leads to, from what stands there now.
func (f *FS) step(c api.Cred, at uint64, part string) (api.Entry, error) {
	x, err := f.item(at)
	switch {
	case err != nil:
		return api.Entry{}, err
	case x.Kind != api.Dir:
		return api.Entry{}, api.ErrNotDir
	case !x.lets(c, pass):
		return api.Entry{}, api.ErrAccess
	case part == ".":
		return api.Entry{Node: at, Kind: api.Dir}, nil
	case part == "..":
		_, err := f.item(x.Parent)
		return api.Entry{Node: x.Parent, Kind: api.Dir}, err
	case !dir.Good(part):
		return api.Entry{}, api.ErrName
	}
	return f.look(x, part)
}

// within tells whether the directory d is n, or n is one on its way to the root.
func (f *FS) within(d, n uint64) (bool, error) {
	mark := uint64(0)
	for steps := 1; d != n && d != root; steps++ {
		if d == mark {
			return false, api.ErrSpoilt // a way that leads round and round is none of a tree's
		}
		if steps&(steps-1) == 0 {
			mark = d
		}
		x, err := f.item(d)
		if err != nil {
			return false, err
		}
		d = x.Parent
	}
	return d == n, nil
}
