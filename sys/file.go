package sys

import "bedrock/api"

// How a file is opened.
const (
	toRead = 1 << iota
	toWrite
	toMake
	alone
	toCut
	atEnd
	behindHow // all bits are below it
)

// What may be allowed of a node (11.3).
const (
	mayPass = 1 << iota
	mayWrite
	mayRead
)

// From where a Seek goes on.
const (
	fromStart = iota
	fromPlace
	fromSize
)

// opening is what descriptors stand for.
type opening struct {
	node  uint64
	place int
	how   int
	fds   int // how many descriptors it has; none, if it is over
}

// goodHow tells whether a file may be opened so.
func goodHow(how int) bool {
	has := func(bits int) bool { return how&bits > 0 }
	switch {
	case how < 0 || how >= behindHow || !has(toRead|toWrite):
		return false
	case has(alone) && !has(toMake) || has(toCut|atEnd) && !has(toWrite):
		return false
	}
	return true
}

// spare is the least descriptor that is free.
func (p *process) spare() (int, error) {
	for fd := range api.MaxFds {
		if p.fds[fd] == 0 {
			return fd, nil
		}
	}
	return 0, api.ErrMany
}

// add makes an opening, and gives it a descriptor. There is room for as many as there are descriptors.
func (p *process) add(fd int, o opening) {
	for i := range api.MaxFds {
		if p.opens[i].fds == 0 {
			o.fds = 1
			p.opens[i] = o
			p.fds[fd] = i + 1
			return
		}
	}
}

// opening is what a descriptor of a process stands for.
func (y *Sys) opening(pid, fd int) (*process, *opening, error) {
	p, err := y.process(pid)
	if err != nil {
		return nil, nil, err
	}
	o, err := p.opening(fd)
	return p, o, err
}

func (p *process) opening(fd int) (*opening, error) {
	if fd < 0 || fd >= api.MaxFds || p.fds[fd] == 0 {
		return nil, api.ErrFd
	}
	return &p.opens[p.fds[fd]-1], nil
}

// Open opens a file, or a directory.
func (y *Sys) Open(pid int, path string, how, mode int) (int, error) {
	p, err := y.process(pid)
	if err != nil {
		return 0, err
	}
	if !goodHow(how) {
		return 0, api.ErrArg
	}
	fd, err := p.spare()
	if err != nil {
		return 0, err
	}
	var n uint64
	err = y.change(func() (deed, error) {
		var d deed
		var err error
		if n, d, err = y.reach(p, path, how, mode); err == nil {
			err = y.tree.Hold(n)
		}
		return d, err
	})
	if err != nil {
		return 0, err
	}
	p.add(fd, opening{node: n, how: how})
	return fd, nil
}

// reach is the node that is opened, one that is there, or one that is made for it.
func (y *Sys) reach(p *process, path string, how, mode int) (uint64, deed, error) {
	if how&toMake > 0 {
		at, err := y.spot(p, path)
		if err != nil {
			return 0, deed{}, err
		}
		n, err := y.has(at)
		switch {
		case err != nil:
			return 0, deed{}, err
		case n == 0:
			return y.create(p, at, api.New{Kind: api.File, Mode: mode})
		case how&alone > 0:
			return 0, deed{}, api.ErrExists
		}
	}
	n, a, err := y.stat(p, path, true)
	if err != nil {
		return 0, deed{}, err
	}
	d, err := y.enter(p, n, a, how)
	return n, d, err
}

// enter opens a node that is there.
func (y *Sys) enter(p *process, n uint64, a api.Attr, how int) (deed, error) {
	if a.Kind == api.Dir && how&toWrite > 0 {
		return deed{}, api.ErrIsDir
	}
	want := 0
	if how&toRead > 0 {
		want |= mayRead
	}
	if how&toWrite > 0 {
		want |= mayWrite
	}
	if err := y.tree.May(p.cred, n, want); err != nil || how&toCut == 0 {
		return deed{}, err
	}
	return y.cut(p, n, 0)
}

// cut cuts a file, of which it was asked already who may.
func (y *Sys) cut(p *process, n uint64, size int) (deed, error) {
	return cutDeed(p.cred, n, size), y.known.Cut(p.cred, n, size)
}

// Close lets a descriptor be free.
func (y *Sys) Close(pid, fd int) error {
	p, o, err := y.opening(pid, fd)
	if err != nil {
		return err
	}
	if o.fds == 1 {
		if err := y.change(func() (deed, error) { return y.release([]uint64{o.node}) }); err != nil {
			return err
		}
	}
	p.fds[fd] = 0
	o.fds--
	if !p.opened(o.node) {
		y.giveUp(o.node, pid, span{0, endless})
		y.ask()
	}
	return nil
}

// opened tells whether a process has an opening of a node.
func (p *process) opened(n uint64) bool {
	for i := range p.opens {
		if p.opens[i].fds > 0 && p.opens[i].node == n {
			return true
		}
	}
	return false
}

// Dup gives an opening one more descriptor.
func (y *Sys) Dup(pid, fd int) (int, error) {
	p, err := y.process(pid)
	if err != nil {
		return 0, err
	}
	to, err := p.spare()
	if err != nil {
		return 0, err
	}
	o, err := p.opening(fd)
	if err != nil {
		return 0, err
	}
	o.fds++
	p.fds[to] = p.fds[fd]
	return to, nil
}

// Seek lets an opening have another place.
func (y *Sys) Seek(pid, fd, at, whence int) (int, error) {
	_, o, err := y.opening(pid, fd)
	if err != nil {
		return 0, err
	}
	from := 0
	switch whence {
	case fromStart:
	case fromPlace:
		from = o.place
	case fromSize:
		if from, err = y.size(o.node); err != nil {
			return 0, err
		}
	default:
		return 0, api.ErrArg
	}
	if at < -from || at > api.MaxFile-from {
		return 0, api.ErrArg
	}
	o.place = from + at
	return o.place, nil
}

// size is how many bytes a node has.
func (y *Sys) size(n uint64) (int, error) {
	a, err := y.tree.Stat(n)
	return a.Size, err
}

// Read reads from the place on.
func (y *Sys) Read(pid, fd, size int) ([]byte, error) {
	p, o, err := y.opening(pid, fd)
	if err != nil {
		return nil, err
	}
	if o.how&toRead == 0 {
		return nil, api.ErrAccess
	}
	b, err := y.known.Read(p.cred, o.node, o.place, size)
	if err != nil {
		return nil, err
	}
	o.place += len(b)
	return b, nil
}

// writable is what a descriptor stands for, if it was opened to be written.
func (y *Sys) writable(pid, fd int) (*process, *opening, error) {
	p, o, err := y.opening(pid, fd)
	if err == nil && o.how&toWrite == 0 {
		err = api.ErrAccess
	}
	return p, o, err
}

// Write writes from the place on, or at the end.
func (y *Sys) Write(pid, fd int, b []byte) error {
	p, o, err := y.writable(pid, fd)
	if err != nil {
		return err
	}
	if o.how&atEnd > 0 {
		size, err := y.size(o.node)
		if err != nil {
			return err
		}
		o.place = size
	}
	err = y.change(func() (deed, error) {
		return writeDeed(p.cred, o.node, o.place, b), y.known.Write(p.cred, o.node, o.place, b)
	})
	if err != nil {
		return err
	}
	o.place += len(b)
	return nil
}

// Cut gives a file another size.
func (y *Sys) Cut(pid, fd, size int) error {
	p, o, err := y.writable(pid, fd)
	if err != nil {
		return err
	}
	return y.change(func() (deed, error) { return y.cut(p, o.node, size) })
}
