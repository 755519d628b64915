package fs

import (
	"slices"

	"bedrock/api"
)

// What may be allowed of a node: the bits of its Mode for one who asks.
const (
	pass = 1 << iota
	write
	read
)

// Further bits of a Mode.
const (
	sticky  = 0o1000
	group   = 0o2000
	powers  = 0o6000 // those that a node loses where others than user 0 change what it is
	allBits = 0o7777
)

// maxID is the highest number of a user, a group or a project.
const maxID = 1<<31 - 1

// admin is the user who may everything.
const admin = 0

// May tells whether c may do all of what is wanted with a node.
func (f *FS) May(c api.Cred, n uint64, want int) error {
	x, err := f.item(n)
	switch {
	case err != nil:
		return err
	case want < 0 || want > read|write|pass:
		return api.ErrArg
	case !x.lets(c, want):
		return api.ErrAccess
	}
	return nil
}

// lets tells whether the node's Mode allows c all of what is wanted.
func (x item) lets(c api.Cred, want int) bool {
	bits := x.Mode
	switch {
	case c.Uid == admin || x.open:
		return true
	case c.Uid == x.Uid:
		bits >>= 6
	case slices.Contains(c.Gids, x.Gid):
		bits >>= 3
	}
	return want&^bits == 0
}

// yields tells whether c may take the name of a node out of the directory x: from one that is sticky not everybody may.
func (x item) yields(c api.Cred, n item) bool {
	return x.open || x.Mode&sticky == 0 || c.Uid == admin || c.Uid == x.Uid || c.Uid == n.Uid
}
