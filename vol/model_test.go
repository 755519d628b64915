package vol

import (
	"bytes"
	"errors"
	"math/rand"
	"slices"
	"testing"

	"bedrock/api"
)

// cell is what one call gave to one disk for one row.
type cell struct {
	way       way
	disk, row int
	stamp     uint64
}

// turned is a cell of which bits were turned. As the zero cell it is good for nothing.
var turned = cell{disk: -1}

// plate is a disk of which only is kept which call wrote which sector.
type plate struct {
	size int
	safe map[int]cell
	wait map[int][]cell
	lost map[int]bool
	gone bool
	mis  [][2]int
}

func (p *plate) put(c cell) {
	if p.gone {
		return
	}
	at := c.row
	for i := range p.mis {
		p.mis[i][0]--
		if p.mis[i][0] < 0 {
			at = p.mis[i][1]
			p.mis = slices.Delete(p.mis, i, i+1)
			break
		}
	}
	if at >= 0 && at < p.size {
		p.wait[at] = append(p.wait[at], c)
	}
}

func (p *plate) settle() {
	for at, l := range p.wait {
		p.safe[at] = l[len(l)-1]
		delete(p.lost, at)
	}
	clear(p.wait)
}

func (p *plate) crash(fates []byte) {
	var l []int
	for at := range p.wait {
		l = append(l, at)
	}
	slices.Sort(l)
	for k, at := range l {
		w := p.wait[at]
		switch f := int(fates[k%len(fates)]) % (len(w) + 2); {
		case f > len(w):
			p.lost[at] = true
		case f > 0:
			p.safe[at] = w[f-1]
			delete(p.lost, at)
		}
	}
	clear(p.wait)
	p.mis = nil
}

func (p *plate) cell(at int) cell {
	if l := p.wait[at]; len(l) > 0 {
		return l[len(l)-1]
	}
	if p.lost[at] {
		return cell{}
	}
	return p.safe[at]
}

// model is a volume, and what it should answer.
type model struct {
	t     *testing.T
	r     *rand.Rand
	v     *Vol
	disks []*api.Disk
	level int
	plate []*plate
	rows  int
	stamp uint64
	wrote map[uint64]map[int][]byte // what Writes gave to rows
	marks map[uint64][]byte
}

func newModel(t *testing.T, seed int64) *model {
	m := &model{t: t, r: rand.New(rand.NewSource(seed)), rows: 12, wrote: map[uint64]map[int][]byte{}, marks: map[uint64][]byte{}}
	data := 1 + m.r.Intn(6)
	m.level = m.r.Intn(3)
	m.v, m.disks = volume(t, data, m.level, m.rows)
	for range m.disks {
		m.plate = append(m.plate, m.empty())
	}
	return m
}

func (m *model) empty() *plate {
	return &plate{size: m.rows, safe: map[int]cell{}, wait: map[int][]cell{}, lost: map[int]bool{}}
}

func (m *model) good(i int, c cell) bool {
	p := m.plate[i]
	return !p.gone && p.cell(c.row) == c
}

// few tells whether a call that writes may be answered nil.
func (m *model) few() bool {
	n := 0
	for _, p := range m.plate {
		if p.gone {
			n++
		}
	}
	return n <= m.level
}

func (m *model) answered(what string, err error, want error) bool {
	if !errors.Is(err, want) {
		m.t.Fatalf("%s: %v, wanted %v", what, err, want)
	}
	return want == nil
}

func (m *model) wanted() error {
	if m.few() {
		return nil
	}
	return api.ErrGone
}

func (m *model) write() {
	m.stamp++
	at := m.r.Intn(m.rows)
	n := 1 + m.r.Intn(m.rows-at)
	b := make([]byte, n*m.v.RowBytes()-m.r.Intn(m.v.RowBytes()))
	m.r.Read(b)
	m.answered("Write", m.v.Write(at, m.stamp, b), m.wanted())
	full := make([]byte, n*m.v.RowBytes())
	copy(full, b)
	m.wrote[m.stamp] = map[int][]byte{}
	for k := range n {
		m.wrote[m.stamp][at+k] = full[k*m.v.RowBytes() : (k+1)*m.v.RowBytes()]
		for i, p := range m.plate {
			p.put(cell{written, i, at + k, m.stamp})
		}
	}
}

func (m *model) mark() {
	m.stamp++
	at := m.r.Intn(m.rows)
	b := make([]byte, m.r.Intn(api.SectorRoom+1))
	m.r.Read(b)
	m.answered("Mark", m.v.Mark(at, m.stamp, b), m.wanted())
	m.marks[m.stamp] = b
	for i, p := range m.plate {
		p.put(cell{marked, i, at, m.stamp})
	}
}

// some is a stamp that some sector of the row has, or any other one.
func (m *model) some(at int) uint64 {
	if m.r.Intn(8) == 0 {
		return 1 + uint64(m.r.Intn(int(m.stamp)+2))
	}
	return max(m.plate[m.r.Intn(len(m.plate))].cell(at).stamp, 1)
}

// spoilt is the first of n rows that Read cannot tell; -1: none.
func (m *model) spoilt(at, n int, stamp uint64) int {
	for k := range n {
		bad := 0
		for i := range m.plate {
			if !m.good(i, cell{written, i, at + k, stamp}) {
				bad++
			}
		}
		if bad > m.level {
			return at + k
		}
	}
	return -1
}

func (m *model) read() {
	at := m.r.Intn(m.rows)
	n := 1 + m.r.Intn(m.rows-at)
	stamp := m.some(at)
	if m.r.Intn(2) == 0 { // as many rows as there are
		for n = 1; at+n < m.rows && m.spoilt(at, n+1, stamp) < 0; n++ {
		}
	}
	got, err := m.v.Read(at, n, stamp)
	if row := m.spoilt(at, n, stamp); row >= 0 {
		isAt(m.t, err, row)
		return
	}
	ok(m.t, err)
	var want []byte
	for k := range n {
		want = append(want, m.wrote[stamp][at+k]...)
	}
	if !bytes.Equal(got, want) {
		m.t.Fatal("Read tells what was not written")
	}
}

func (m *model) scrub() {
	at := m.r.Intn(m.rows)
	n := 1 + m.r.Intn(m.rows-at)
	stamp := m.some(at)
	row := m.spoilt(at, n, stamp)
	got, err := m.v.Scrub(at, n, stamp)
	want, end := 0, at+n
	if row >= 0 {
		end = row
	}
	for k := at; k < end; k++ {
		for i, p := range m.plate {
			if c := (cell{written, i, k, stamp}); !p.gone && !m.good(i, c) {
				p.put(c)
				want++
			}
		}
	}
	if row >= 0 {
		isAt(m.t, err, row)
		want = 0
	} else {
		ok(m.t, err)
	}
	if got != want {
		m.t.Fatalf("Scrub wrote %d sectors, wanted %d", got, want)
	}
}

func (m *model) tellMarks() {
	at := m.r.Intn(m.rows)
	got, err := m.v.Marks(at)
	ok(m.t, err)
	var want []api.Mark
	for i, p := range m.plate {
		if c := p.cell(at); c.way == marked && m.good(i, cell{marked, i, at, c.stamp}) {
			want = append(want, api.Mark{Disk: i, Stamp: c.stamp, Bytes: m.marks[c.stamp]})
		}
	}
	if !slices.EqualFunc(got, want, func(a, b api.Mark) bool {
		return a.Disk == b.Disk && a.Stamp == b.Stamp && bytes.Equal(a.Bytes, b.Bytes)
	}) {
		m.t.Fatalf("Marks are %v, wanted %v", got, want)
	}
}

func (m *model) remark() {
	at := m.r.Intn(m.rows)
	stamp := m.some(at)
	have := 0
	for i := range m.plate {
		if m.good(i, cell{marked, i, at, stamp}) {
			have++
		}
	}
	got, err := m.v.Remark(at, stamp)
	if have == 0 {
		isAt(m.t, err, at)
		return
	}
	want := 0
	for i, p := range m.plate {
		if c := (cell{marked, i, at, stamp}); !p.gone && !m.good(i, c) {
			p.put(c)
			want++
		}
	}
	if !m.answered("Remark", err, m.wanted()) {
		want = 0
	}
	if got != want {
		m.t.Fatalf("Remark wrote %d sectors, wanted %d", got, want)
	}
}

func (m *model) flush() {
	m.answered("Flush", m.v.Flush(), m.wanted())
	for _, p := range m.plate {
		if !p.gone {
			p.settle()
		}
	}
}

func (m *model) crash() {
	for i, d := range m.disks {
		fates := make([]byte, 1+m.r.Intn(9))
		m.r.Read(fates)
		d.Crash(fates)
		m.plate[i].crash(fates)
	}
	v, err := New(m.disks, m.v.shape)
	ok(m.t, err)
	m.v = v
}

// harm does something to a disk from outside.
func (m *model) harm() {
	i, at := m.r.Intn(len(m.disks)), m.r.Intn(m.rows)
	d, p := m.disks[i], m.plate[i]
	switch m.r.Intn(12) {
	case 0, 1, 2:
		d.Lose(at)
		p.settle()
		p.lost[at] = true
	case 3, 4, 5:
		if len(p.wait[at]) == 0 && p.safe[at] == turned {
			return // of bits that are turned twice nothing is promised
		}
		d.Spoil(at, m.r.Intn(8*api.SectorSize), m.r.Uint32()|1)
		p.settle()
		p.safe[at] = turned
	case 6, 7, 8:
		after, to := m.r.Intn(5), m.r.Intn(m.rows+2)-1
		d.Mislay(after, to)
		p.mis = append(p.mis, [2]int{after, to})
	case 9:
		d.Kill()
		p.gone = true
	default:
		if p.gone {
			m.disks[i], m.plate[i] = api.NewDisk(m.rows), m.empty()
			ok(m.t, m.v.Replace(i, m.disks[i]))
		}
	}
}

// TestModel does what it likes with volumes and their disks, and asks all the time.
func TestModel(t *testing.T) {
	for seed := range int64(300) {
		m := newModel(t, seed)
		for range 250 {
			switch m.r.Intn(16) {
			case 0, 1, 2:
				m.write()
			case 3:
				m.mark()
			case 4, 5, 6, 7:
				m.read()
			case 8:
				m.scrub()
			case 9, 10:
				m.tellMarks()
			case 11:
				m.remark()
			case 12:
				m.flush()
			case 13:
				if m.r.Intn(3) == 0 {
					m.crash()
				}
			default:
				m.harm()
			}
		}
	}
}
