package fs

import (
	"errors"

	"bedrock/api"
	"bedrock/number"
)

// The kinds of those for whom nodes and pages are counted.
const (
	user = 1 + iota
	project
)

// owner is a user or a project.
type owner struct{ kind, id int }

// good tells whether there may be such an owner.
func (o owner) good() bool {
	least := 0
	if o.kind == project {
		least = 1
	}
	return (o.kind == user || o.kind == project) && o.id >= least && o.id <= maxID
}

// account is what an owner has, and the most that may be.
type account struct{ has, most api.Quota }

// Usage tells how many nodes and pages an owner has.
func (f *FS) Usage(kind, id int) (api.Quota, error) {
	a, err := f.account(owner{kind, id})
	return a.has, err
}

// Limit tells how many nodes and pages an owner may have.
func (f *FS) Limit(kind, id int) (api.Quota, error) {
	a, err := f.account(owner{kind, id})
	return a.most, err
}

// SetLimit says how many nodes and pages an owner may have.
func (f *FS) SetLimit(kind, id int, q api.Quota) error {
	if f.fixed {
		return api.ErrReadOnly
	}
	who := owner{kind, id}
	if !who.good() || q.Nodes < 0 || q.Pages < 0 {
		return api.ErrArg
	}
	a, err := f.account(who)
	if err != nil || a.most == q {
		return err
	}
	a.most = q
	return f.change(func(t *turn) error { return f.keep(who, a) })
}

// book adds to what an owner has. What grows must not be above its limit; what does not may be.
func (t *turn) book(who owner, more api.Quota) error {
	if more == (api.Quota{}) {
		return nil
	}
	a, err := t.account(who)
	if err != nil {
		return err
	}
	a.has.Nodes += more.Nodes
	a.has.Pages += more.Pages
	if more.Nodes > 0 && above(a.has.Nodes, a.most.Nodes) || more.Pages > 0 && above(a.has.Pages, a.most.Pages) {
		return api.ErrQuota
	}
	return t.keep(who, a)
}

// above tells whether so many are more than a limit allows.
func above(n, most int) bool { return most > 0 && n > most }

// account is what the map has of an owner; nothing, if there is nothing to tell.
func (f *FS) account(who owner) (account, error) {
	if !who.good() {
		return account{}, api.ErrArg
	}
	b, err := f.table.Get(accountKey(who))
	if errors.Is(err, api.ErrMissing) {
		return account{}, nil
	}
	if err != nil {
		return account{}, err
	}
	return accountOf(b)
}

// accountOf is the account of which the map has these bytes. Others were not put there by a tree.
func accountOf(b []byte) (account, error) {
	var l [4]int
	if len(b) != len(l)*wordSize {
		return account{}, api.ErrSpoilt
	}
	for i := range l {
		l[i] = int(number.Of(b[i*wordSize : (i+1)*wordSize]))
	}
	return account{api.Quota{Nodes: l[0], Pages: l[1]}, api.Quota{Nodes: l[2], Pages: l[3]}}, nil
}

// keep puts an account that became another one; if there is nothing to tell any more it is taken away.
func (f *FS) keep(who owner, a account) error {
	if a == (account{}) {
		return f.table.Del(accountKey(who))
	}
	var b []byte
	for _, n := range []int{a.has.Nodes, a.has.Pages, a.most.Nodes, a.most.Pages} {
		b = number.Append(b, uint64(n), wordSize)
	}
	return f.table.Put(accountKey(who), b)
}
