package fs

import "bedrock/api"

// file tells what is wrong with a node that is no file.
func (x item) file() error {
	switch x.Kind {
	case api.Dir:
		return api.ErrIsDir
	case api.Link:
		return api.ErrKind
	}
	return nil
}

// open is the node n, if it is a file with which c may do what is wanted.
func (f *FS) open(c api.Cred, n uint64, want int) (item, error) {
	x, err := f.item(n)
	if err == nil {
		err = x.file()
	}
	if err == nil && !x.lets(c, want) {
		err = api.ErrAccess
	}
	return x, err
}

// Read reads bytes of a file.
func (f *FS) Read(c api.Cred, n uint64, at, size int) ([]byte, error) {
	if _, err := f.open(c, n, read); err != nil {
		return nil, err
	}
	return f.table.Read(n, at, size)
}

// Write writes bytes to a file.
func (f *FS) Write(c api.Cred, n uint64, at int, b []byte) error {
	do := func() error { return f.table.Write(n, at, b) }
	if len(b) > 0 {
		return f.rewrite(c, n, do)
	}
	if _, err := f.writable(c, n); err != nil {
		return err
	}
	return do() // which looks at the numbers alone, and is no turn
}

// Cut gives a file another size.
func (f *FS) Cut(c api.Cred, n uint64, size int) error {
	return f.rewrite(c, n, func() error { return f.table.Cut(n, size) })
}

// Punch makes bytes of a file 0.
func (f *FS) Punch(c api.Cred, n uint64, at, size int) error {
	return f.rewrite(c, n, func() error { return f.table.Punch(n, at, size) })
}

// Clone lets pages of a file be what those of another one are.
func (f *FS) Clone(c api.Cred, from uint64, page int, to uint64, where, pages int) error {
	if f.fixed {
		return api.ErrReadOnly
	}
	x, y, err := f.items(from, to)
	if err == nil {
		err = x.file()
	}
	if err == nil {
		err = y.file()
	}
	switch {
	case err != nil:
		return err
	case !x.lets(c, read) || !y.lets(c, write):
		return api.ErrAccess
	}
	return f.alter(c, y, func() error { return f.table.Clone(from, page, to, where, pages) })
}

// writable is the node n, if c may write to it.
func (f *FS) writable(c api.Cred, n uint64) (item, error) {
	if f.fixed {
		return item{}, api.ErrReadOnly
	}
	return f.open(c, n, write)
}

// rewrite lets do change a file's bytes, if c may.
func (f *FS) rewrite(c api.Cred, n uint64, do func() error) error {
	x, err := f.writable(c, n)
	if err != nil {
		return err
	}
	return f.alter(c, x, do)
}

// alter is the turn in which c lets do change the bytes of x.
func (f *FS) alter(c api.Cred, x item, do func() error) error {
	return f.turn(func(t *turn) error {
		if err := do(); err != nil {
			return err
		}
		now, err := f.item(x.number)
		if err != nil {
			return err
		}
		t.count(x.Attr, -1)
		t.count(now.Attr, 1)
		if c.Uid != admin {
			now.Mode &^= powers
		}
		return t.save(now)
	})
}
