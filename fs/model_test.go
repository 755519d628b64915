package fs

import (
	"maps"
	"slices"
	"strings"

	"bedrock/api"
	"bedrock/dir"
)

// page is the bytes of a page.
type page [api.PageSize]byte

// knot is a node as the model has it.
type knot struct {
	api.Attr // but Size of a link, and Pages
	pages    map[int]page
	extras   map[string]string
	target   string
	names    map[string]api.Entry // by their one names
}

// model is what a tree should be, told as chapter 11 tells it.
type model struct {
	nodes  map[uint64]*knot
	last   uint64
	turn   uint64
	limits map[owner]api.Quota
	held   map[uint64]int
}

func newModel(fold bool) *model {
	a := api.Attr{Kind: api.Dir, Mode: 0o755, Fold: fold, Parent: 1, Links: 1}
	return &model{nodes: map[uint64]*knot{1: newKnot(a)}, last: 1, limits: map[owner]api.Quota{}, held: map[uint64]int{}}
}

func newKnot(a api.Attr) *knot {
	return &knot{Attr: a, pages: map[int]page{}, extras: map[string]string{}, names: map[string]api.Entry{}}
}

func (k *knot) clone() *knot {
	c := *k
	c.pages, c.extras, c.names = maps.Clone(k.pages), maps.Clone(k.extras), maps.Clone(k.names)
	return &c
}

func (m *model) clone() *model {
	c := *m
	c.nodes, c.limits, c.held = map[uint64]*knot{}, maps.Clone(m.limits), maps.Clone(m.held)
	for n, k := range m.nodes {
		c.nodes[n] = k.clone()
	}
	return &c
}

// attr is what Stat should tell.
func (k *knot) attr() api.Attr {
	a := k.Attr
	a.Pages = len(k.pages)
	return a
}

// name is the one name of a name in a directory.
func (k *knot) name(s string) string {
	if k.Fold {
		return dir.Fold(s)
	}
	return s
}

// usage is what all owners have.
func (m *model) usage() map[owner]api.Quota {
	out := map[owner]api.Quota{}
	for _, k := range m.nodes {
		for _, who := range []owner{{1, k.Uid}, {2, k.Project}} {
			q := out[who]
			out[who] = api.Quota{Nodes: q.Nodes + 1, Pages: q.Pages + len(k.pages)}
		}
	}
	delete(out, owner{2, 0})
	return out
}

// do is a change: with an error, or if it is too much for a limit, there was none.
func (m *model) do(f func(m *model) error) error {
	c := m.clone()
	if err := f(c); err != nil {
		return err
	}
	was, now := m.usage(), c.usage()
	for who, q := range m.limits {
		if q.Nodes > 0 && now[who].Nodes > max(q.Nodes, was[who].Nodes) || q.Pages > 0 && now[who].Pages > max(q.Pages, was[who].Pages) {
			return api.ErrQuota
		}
	}
	*m = *c
	return nil
}

// next does a turn, whose number these nodes have then.
func (m *model) next(l ...uint64) {
	m.turn++
	for _, n := range l {
		if k := m.nodes[n]; k != nil {
			k.Turn = m.turn
		}
	}
}

func (m *model) has(l ...uint64) error {
	for _, n := range l {
		if m.nodes[n] == nil {
			return api.ErrNode
		}
	}
	return nil
}

func (m *model) may(c api.Cred, n uint64, want int) error {
	k := m.nodes[n]
	if k == nil {
		return api.ErrNode
	}
	if want < 0 || want > 7 {
		return api.ErrArg
	}
	if c.Uid == 0 {
		return nil
	}
	shift := 0
	if c.Uid == k.Uid {
		shift = 6
	} else if slices.Contains(c.Gids, k.Gid) {
		shift = 3
	}
	for _, bit := range []int{1, 2, 4} {
		if want&bit != 0 && k.Mode&(bit<<shift) == 0 {
			return api.ErrAccess
		}
	}
	return nil
}

func (m *model) walk(c api.Cred, from uint64, path string, follow bool) (uint64, error) {
	if m.nodes[from] == nil {
		return 0, api.ErrNode
	}
	if len(path) > 400 {
		return 0, api.ErrLong
	}
	if path == "" {
		return 0, api.ErrMissing
	}
	links := 0
	return m.steps(c, from, path, follow, &links)
}

// steps goes the first part of a path, and then all others.
func (m *model) steps(c api.Cred, from uint64, path string, follow bool, links *int) (uint64, error) {
	if path[0] == '/' {
		from = 1
	}
	path = strings.TrimLeft(path, "/")
	if path == "" {
		path = "."
	}
	part, behind, more := strings.Cut(path, "/")
	d := m.nodes[from]
	if d == nil {
		return 0, api.ErrNode
	}
	if d.Kind != api.Dir {
		return 0, api.ErrNotDir
	}
	if err := m.may(c, from, 1); err != nil {
		return 0, err
	}
	e, there := d.names[d.name(part)]
	switch {
	case part == ".":
		e.Node = from
	case part == "..":
		e.Node = d.Parent
		if m.nodes[d.Parent] == nil {
			return 0, api.ErrNode
		}
	case !dir.Good(part):
		return 0, api.ErrName
	case !there:
		return 0, api.ErrMissing
	case e.Kind == api.Link && (more || follow):
		if *links++; *links > 8 {
			return 0, api.ErrLoop
		}
		path := m.nodes[e.Node].target
		if more {
			path += "/" + behind
		}
		return m.steps(c, from, path, follow, links)
	}
	if !more {
		return e.Node, nil
	}
	if behind = strings.TrimLeft(behind, "/"); behind == "" {
		behind = "."
	}
	return m.steps(c, e.Node, behind, follow, links)
}

func (m *model) list(c api.Cred, d uint64, after string, most int) ([]api.Entry, error) {
	k := m.nodes[d]
	switch {
	case k == nil:
		return nil, api.ErrNode
	case k.Kind != api.Dir:
		return nil, api.ErrNotDir
	case m.may(c, d, 4) != nil:
		return nil, api.ErrAccess
	case after != "" && !dir.Good(after):
		return nil, api.ErrName
	}
	var out []api.Entry
	for _, s := range slices.Sorted(maps.Keys(k.names)) {
		if s > k.name(after) && len(out) < most {
			out = append(out, k.names[s])
		}
	}
	return out, nil
}

// newIn is what may be wrong with a directory that is to have another entry.
func (m *model) newIn(d uint64) error {
	if m.nodes[d].Kind != api.Dir {
		return api.ErrNotDir
	}
	if m.nodes[d].Links == 0 {
		return api.ErrMissing
	}
	return nil
}

func (m *model) create(c api.Cred, d uint64, name string, what api.New) (n uint64, err error) {
	err = m.do(func(m *model) error {
		if err := m.has(d); err != nil {
			return err
		}
		if err := m.newIn(d); err != nil {
			return err
		}
		in := m.nodes[d]
		if !dir.Good(name) {
			return api.ErrName
		}
		if what.Kind < 1 || what.Kind > 3 || what.Mode < 0 || what.Mode > 4095 || what.Kind < 3 && what.Target != "" {
			return api.ErrArg
		}
		if len(what.Target) > 400 {
			return api.ErrLong
		}
		if what.Kind == 3 && len(what.Target) == 0 {
			return api.ErrMissing
		}
		if err := m.may(c, d, 3); err != nil {
			return err
		}
		if _, there := in.names[in.name(name)]; there {
			return api.ErrExists
		}
		m.last++
		n = m.last
		k := newKnot(api.Attr{Kind: what.Kind, Mode: what.Mode, Uid: c.Uid, Project: in.Project, Fold: in.Fold, Links: 1})
		if in.Mode&0o2000 != 0 {
			k.Gid = in.Gid
		} else if len(c.Gids) > 0 {
			k.Gid = c.Gids[0]
		}
		if k.Kind == api.Dir {
			k.Parent = d
			if in.Mode&0o2000 != 0 {
				k.Mode |= 0o2000
			}
		}
		k.target = what.Target
		k.put(0, []byte(what.Target))
		m.nodes[n] = k
		in.names[in.name(name)] = api.Entry{Name: name, Node: n, Kind: what.Kind}
		m.next(d, n)
		return nil
	})
	if err != nil {
		n = 0
	}
	return n, err
}

func (m *model) link(c api.Cred, n, d uint64, name string) error {
	return m.do(func(m *model) error {
		if err := m.has(n, d); err != nil {
			return err
		}
		if err := m.newIn(d); err != nil {
			return err
		}
		k, in := m.nodes[n], m.nodes[d]
		if k.Kind == api.Dir {
			return api.ErrIsDir
		}
		if !dir.Good(name) {
			return api.ErrName
		}
		if k.Links == 0 {
			return api.ErrMissing
		}
		if err := m.may(c, d, 3); err != nil {
			return err
		}
		if _, there := in.names[in.name(name)]; there {
			return api.ErrExists
		}
		if k.Links == 100 {
			return api.ErrMany
		}
		k.Links++
		in.names[in.name(name)] = api.Entry{Name: name, Node: n, Kind: k.Kind}
		m.next(n, d)
		return nil
	})
}

// perm is 11.7's ErrPerm.
func (m *model) perm(c api.Cred, d, n uint64) error {
	in, k := m.nodes[d], m.nodes[n]
	if in.Mode&0o1000 != 0 && c.Uid != 0 && c.Uid != in.Uid && c.Uid != k.Uid {
		return api.ErrPerm
	}
	return nil
}

// unname takes a name from a node.
func (m *model) unname(n uint64) {
	k := m.nodes[n]
	k.Links--
	if k.Links == 0 && m.held[n] == 0 {
		delete(m.nodes, n)
	}
}

func (m *model) remove(c api.Cred, d uint64, name string) error {
	return m.do(func(m *model) error {
		if err := m.has(d); err != nil {
			return err
		}
		in := m.nodes[d]
		if in.Kind != api.Dir {
			return api.ErrNotDir
		}
		if !dir.Good(name) {
			return api.ErrName
		}
		if err := m.may(c, d, 3); err != nil {
			return err
		}
		e, there := in.names[in.name(name)]
		if !there {
			return api.ErrMissing
		}
		if err := m.perm(c, d, e.Node); err != nil {
			return err
		}
		if len(m.nodes[e.Node].names) > 0 {
			return api.ErrNotEmpty
		}
		delete(in.names, in.name(name))
		m.next(d, e.Node)
		m.unname(e.Node)
		return nil
	})
}

// under tells whether d is n, or lies somewhere in it.
func (m *model) under(d, n uint64) bool {
	if d == n {
		return true
	}
	return d != 1 && m.under(m.nodes[d].Parent, n)
}

func (m *model) rename(c api.Cred, d uint64, name string, to uint64, as string, how int) error {
	return m.do(func(m *model) error {
		if err := m.has(d, to); err != nil {
			return err
		}
		if how != 0 && how != 1 && how != 2 {
			return api.ErrArg
		}
		x, y := m.nodes[d], m.nodes[to]
		if x.Kind != api.Dir || y.Kind != api.Dir {
			return api.ErrNotDir
		}
		if y.Links == 0 {
			return api.ErrMissing
		}
		if !dir.Good(name) || !dir.Good(as) {
			return api.ErrName
		}
		if m.may(c, d, 3) != nil || m.may(c, to, 3) != nil {
			return api.ErrAccess
		}
		e, there := x.names[x.name(name)]
		other, met := y.names[y.name(as)]
		if !there || how == 2 && !met {
			return api.ErrMissing
		}
		if err := m.perm(c, d, e.Node); err != nil {
			return err
		}
		if e.Kind == api.Dir && m.under(to, e.Node) {
			return api.ErrArg
		}
		if how == 2 && other.Kind == api.Dir && m.under(d, other.Node) {
			return api.ErrArg
		}
		if !met {
			m.move(d, name, to, as)
			return nil
		}
		if d == to && x.name(name) == x.name(as) {
			if how != 2 && e.Name != as {
				m.move(d, name, to, as)
			}
			return nil
		}
		return m.renameOnto(c, d, name, to, as, how)
	})
}

// renameOnto is a Rename where another entry is there already.
func (m *model) renameOnto(c api.Cred, d uint64, name string, to uint64, as string, how int) error {
	x, y := m.nodes[d], m.nodes[to]
	e, other := x.names[x.name(name)], y.names[y.name(as)]
	if how == 1 {
		return api.ErrExists
	}
	if e.Node == other.Node {
		return nil
	}
	if err := m.perm(c, to, other.Node); err != nil {
		return err
	}
	if how == 2 {
		x.names[x.name(name)] = api.Entry{Name: e.Name, Node: other.Node, Kind: other.Kind}
		y.names[y.name(as)] = api.Entry{Name: other.Name, Node: e.Node, Kind: e.Kind}
		m.parent(e.Node, to)
		m.parent(other.Node, d)
		m.next(d, to, e.Node, other.Node)
		return nil
	}
	if other.Kind == api.Dir && e.Kind != api.Dir {
		return api.ErrIsDir
	}
	if other.Kind != api.Dir && e.Kind == api.Dir {
		return api.ErrNotDir
	}
	if len(m.nodes[other.Node].names) > 0 {
		return api.ErrNotEmpty
	}
	delete(y.names, y.name(as))
	m.unname(other.Node)
	m.move(d, name, to, as)
	if k := m.nodes[other.Node]; k != nil {
		k.Turn = m.turn
	}
	return nil
}

func (m *model) parent(n, d uint64) {
	if m.nodes[n].Kind == api.Dir {
		m.nodes[n].Parent = d
	}
}

// move is the turn of an entry that comes to where none is.
func (m *model) move(d uint64, name string, to uint64, as string) {
	x, y := m.nodes[d], m.nodes[to]
	e := x.names[x.name(name)]
	delete(x.names, x.name(name))
	y.names[y.name(as)] = api.Entry{Name: as, Node: e.Node, Kind: e.Kind}
	m.parent(e.Node, to)
	m.next(d, to, e.Node)
}

// put lays bytes into pages, which are data then.
func (k *knot) put(at int, b []byte) {
	for i, x := range b {
		p := k.pages[(at+i)/256]
		p[(at+i)%256] = x
		k.pages[(at+i)/256] = p
	}
	k.Size = max(k.Size, at+len(b))
}

// file is what may be wrong with a node whose bytes are asked for.
func (m *model) file(l ...uint64) error {
	if err := m.has(l...); err != nil {
		return err
	}
	for _, n := range l {
		switch m.nodes[n].Kind {
		case api.Dir:
			return api.ErrIsDir
		case api.Link:
			return api.ErrKind
		}
	}
	return nil
}

// bounds is 9.4's errors.
func bounds(at, size, most int) error {
	switch {
	case at < 0 || size < 0:
		return api.ErrArg
	case size > most || at > 1<<40-size:
		return api.ErrLong
	}
	return nil
}

func (m *model) read(c api.Cred, n uint64, at, size int) ([]byte, error) {
	if err := m.file(n); err != nil {
		return nil, err
	}
	if err := m.may(c, n, 4); err != nil {
		return nil, err
	}
	if err := bounds(at, size, 65536); err != nil {
		return nil, err
	}
	var out []byte
	k := m.nodes[n]
	for i := at; i < at+size && i < k.Size; i++ {
		out = append(out, k.pages[i/256][i%256])
	}
	return out, nil
}

// changes is a turn by which c changes a file's bytes.
func (m *model) changes(c api.Cred, n uint64, err error, f func(k *knot)) error {
	return m.do(func(m *model) error {
		if err := m.file(n); err != nil {
			return err
		}
		if err := m.may(c, n, 2); err != nil {
			return err
		}
		if err != nil {
			return err
		}
		f(m.nodes[n])
		if c.Uid != 0 {
			m.nodes[n].Mode &^= 0o6000
		}
		m.next(n)
		return nil
	})
}

func (m *model) write(c api.Cred, n uint64, at int, b []byte) error {
	was := m.clone()
	err := m.changes(c, n, bounds(at, len(b), 65536), func(k *knot) { k.put(at, b) })
	if err == nil && len(b) == 0 {
		*m = *was
	}
	return err
}

func (m *model) cut(c api.Cred, n uint64, size int) error {
	return m.changes(c, n, bounds(0, size, 1<<40), func(k *knot) {
		for i, p := range k.pages {
			if i*256 >= size {
				delete(k.pages, i)
				continue
			}
			for j := range p {
				if i*256+j >= size {
					p[j] = 0
				}
			}
			k.pages[i] = p
		}
		k.Size = size
	})
}

func (m *model) punch(c api.Cred, n uint64, at, size int) error {
	return m.changes(c, n, bounds(at, size, 1<<40), func(k *knot) {
		for i, p := range k.pages {
			whole := true
			for j := range p {
				if x := i*256 + j; x >= at && x < at+size && x < k.Size {
					p[j] = 0
				} else if x < k.Size {
					whole = false
				}
			}
			k.pages[i] = p
			if whole {
				delete(k.pages, i)
			}
		}
	})
}

func (m *model) cloned(c api.Cred, from uint64, first int, to uint64, where, pages int) error {
	return m.do(func(m *model) error {
		if err := m.has(from, to); err != nil {
			return err
		}
		if err := m.file(from); err != nil {
			return err
		}
		if err := m.file(to); err != nil {
			return err
		}
		if m.may(c, from, 4) != nil || m.may(c, to, 2) != nil {
			return api.ErrAccess
		}
		if first < 0 || where < 0 || pages < 0 {
			return api.ErrArg
		}
		if pages > 64 || first > 1<<32-pages || where > 1<<32-pages {
			return api.ErrLong
		}
		x, y := m.nodes[from].clone(), m.nodes[to]
		for i := range pages {
			p, data := x.pages[first+i]
			if data {
				y.pages[where+i] = p
			} else {
				delete(y.pages, where+i)
			}
		}
		if n := min(256*pages, x.Size-256*first); n > 0 {
			y.Size = max(y.Size, 256*where+n)
		}
		if c.Uid != 0 {
			y.Mode &^= 0o6000
		}
		m.next(to)
		return nil
	})
}

func (m *model) change(c api.Cred, n uint64, how api.Set) error {
	return m.do(func(m *model) error {
		if err := m.has(n); err != nil {
			return err
		}
		k := m.nodes[n]
		in := func(bit, x, most int) bool { return how.What&bit == 0 || x >= 0 && x <= most }
		if how.What < 0 || how.What > 15 || !in(1, how.Mode, 4095) || !in(2, how.Uid, 1<<31-1) || !in(4, how.Gid, 1<<31-1) || !in(8, how.Project, 1<<31-1) {
			return api.ErrArg
		}
		if c.Uid != 0 && c.Uid != k.Uid {
			return api.ErrPerm
		}
		if c.Uid != 0 && how.What&10 != 0 {
			return api.ErrPerm
		}
		if c.Uid != 0 && how.What&4 != 0 && !slices.Contains(c.Gids, how.Gid) {
			return api.ErrPerm
		}
		if how.What == 0 {
			return nil
		}
		if how.What&1 != 0 {
			k.Mode = how.Mode
		}
		if how.What&2 != 0 {
			k.Uid = how.Uid
		}
		if how.What&4 != 0 {
			k.Gid = how.Gid
			if c.Uid != 0 {
				k.Mode &^= 0o6000
			}
		}
		if how.What&8 != 0 {
			k.Project = how.Project
		}
		m.next(n)
		return nil
	})
}

func (m *model) extra(c api.Cred, n uint64, name string) ([]byte, error) {
	if err := m.may(c, n, 4); err != nil {
		return nil, err
	}
	if len(name) < 1 || len(name) > 60 {
		return nil, api.ErrName
	}
	v, there := m.nodes[n].extras[name]
	if !there {
		return nil, api.ErrMissing
	}
	return []byte(v), nil
}

func (m *model) extras(c api.Cred, n uint64) ([]string, error) {
	if err := m.may(c, n, 4); err != nil {
		return nil, err
	}
	return slices.Sorted(maps.Keys(m.nodes[n].extras)), nil
}

func (m *model) setExtra(c api.Cred, n uint64, name string, val []byte) error {
	return m.do(func(m *model) error {
		if err := m.may(c, n, 2); err != nil {
			return err
		}
		if len(name) < 1 || len(name) > 60 {
			return api.ErrName
		}
		if len(val) > 200 {
			return api.ErrLong
		}
		k := m.nodes[n]
		if _, there := k.extras[name]; !there && len(k.extras) == 16 {
			return api.ErrMany
		}
		k.extras[name] = string(val)
		m.next(n)
		return nil
	})
}

func (m *model) delExtra(c api.Cred, n uint64, name string) error {
	return m.do(func(m *model) error {
		if err := m.may(c, n, 2); err != nil {
			return err
		}
		if len(name) < 1 || len(name) > 60 {
			return api.ErrName
		}
		if _, there := m.nodes[n].extras[name]; !there {
			return api.ErrMissing
		}
		delete(m.nodes[n].extras, name)
		m.next(n)
		return nil
	})
}

func (m *model) hold(n uint64) error {
	if err := m.has(n); err != nil {
		return err
	}
	m.held[n]++
	return nil
}

func (m *model) release(n uint64) error {
	if err := m.has(n); err != nil {
		return err
	}
	if m.held[n] == 0 {
		return api.ErrOrder
	}
	m.held[n]--
	if m.held[n] == 0 {
		delete(m.held, n)
		if m.nodes[n].Links == 0 {
			delete(m.nodes, n)
		}
	}
	return nil
}

func (m *model) reap() {
	for n, k := range m.nodes {
		if k.Links == 0 && m.held[n] == 0 {
			delete(m.nodes, n)
		}
	}
}

// goodOwner is 11.11's bounds.
func goodOwner(kind, id int) bool {
	return kind == 1 && id >= 0 && id < 1<<31 || kind == 2 && id >= 1 && id < 1<<31
}

func (m *model) setLimit(kind, id int, q api.Quota) error {
	if !goodOwner(kind, id) || q.Nodes < 0 || q.Pages < 0 {
		return api.ErrArg
	}
	m.limits[owner{kind, id}] = q
	return nil
}
