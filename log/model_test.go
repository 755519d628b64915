package log

import (
	"bytes"
	"math/rand"
	"slices"
	"testing"

	"bedrock/api"
	"bedrock/vol"
)

// model is a log, and what it was given.
type model struct {
	t     *testing.T
	r     *rand.Rand
	v     *vol.Vol
	disks []*api.Disk
	level int
	at    int
	rows  int
	life  uint64
	l     *Log
	notes [][]byte
	safe  int  // how many of them are safe
	whole bool // no crash came, since the life began
	sound []bool
}

func newModel(t *testing.T, seed int64) *model {
	m := &model{t: t, r: rand.New(rand.NewSource(seed))}
	m.level = m.r.Intn(3)
	m.v, m.disks = volume(t, 1+m.r.Intn(3), m.level, 40)
	m.at = m.r.Intn(10)
	m.rows = 1 + m.r.Intn(30)
	m.begin()
	return m
}

func (m *model) begin() {
	m.life += 1 + uint64(m.r.Intn(3))
	m.l = begun(m.t, m.v, m.at, m.rows, m.life)
	m.notes, m.safe, m.whole = nil, 0, true
	m.sound = nil
	for range m.disks {
		m.sound = append(m.sound, true)
	}
}

func (m *model) note() {
	b := make([]byte, 1+m.r.Intn(1+m.r.Intn(500)))
	m.r.Read(b)
	left := m.l.Left()
	err := m.l.Note(b)
	if need := (len(b) + 99) / 100; need > left {
		is(m.t, err, api.ErrFull)
		left += need
	} else {
		ok(m.t, err)
		m.notes = append(m.notes, b)
	}
	if want := left - (len(b)+99)/100; m.l.Left() != want {
		m.t.Fatalf("%d rows are left, wanted %d", m.l.Left(), want)
	}
}

func (m *model) sync() {
	ok(m.t, m.l.Sync())
	m.safe = len(m.notes)
}

// hurt lets one disk lose something, but not the last one that has lost nothing, if sound ones are to stay.
func (m *model) hurt(all bool) {
	i := m.r.Intn(len(m.disks))
	m.sound[i] = false
	if !all && !slices.Contains(m.sound, true) {
		m.sound[i] = true
		return
	}
	at := m.at + m.r.Intn(m.rows)
	if m.r.Intn(2) == 0 {
		m.disks[i].Lose(at)
	} else {
		m.disks[i].Spoil(at, m.r.Intn(1024-32), m.r.Uint32()|1)
	}
}

// crash loses at will what is not safe; what is given to this life from then on is not promised to be told.
func (m *model) crash() {
	for _, d := range m.disks {
		fates := make([]byte, 1+m.r.Intn(20))
		m.r.Read(fates)
		d.Crash(fates)
	}
	m.look(m.safe)
	m.whole = false
}

// look asks for the first notes, at least so many, if one disk has lost nothing.
func (m *model) look(least int) {
	got, err := Read(m.v, m.at, m.rows, m.life)
	ok(m.t, err)
	if len(got) > len(m.notes) || !slices.EqualFunc(got, m.notes[:len(got)], bytes.Equal) {
		m.t.Fatalf("notes %q of %q", got, m.notes)
	}
	if slices.Contains(m.sound, true) && len(got) < least {
		m.t.Fatalf("%d notes, wanted %d at least", len(got), least)
	}
	if want := m.count(); len(got) != want {
		m.t.Fatalf("%d notes are told, %d are whole", len(got), want)
	}
}

// count is how many of the first notes have all their rows, each on some disk.
func (m *model) count() int {
	row := 0
	for n, b := range m.notes {
		for range (len(b) + 99) / 100 {
			marks, err := m.v.Marks(m.at + row)
			ok(m.t, err)
			if !slices.ContainsFunc(marks, func(x api.Mark) bool { return x.Stamp == m.l.stamp(row) }) {
				return n
			}
			row++
		}
	}
	return len(m.notes)
}

func TestAgainstModel(t *testing.T) {
	for seed := range int64(400) {
		m := newModel(t, seed)
		for range 60 {
			switch k := m.r.Intn(20); {
			case k < 12:
				m.note()
			case k < 15:
				m.sync()
			case k < 17:
				m.hurt(seed%3 == 0)
			case k < 18:
				m.crash()
				fallthrough
			default:
				if k > 18 || !m.whole {
					m.begin()
				}
			}
			m.look(len(m.notes))
		}
	}
}

// TestWithDisksThatAreGone goes on as long as so many disks are gone as may be.
func TestWithDisksThatAreGone(t *testing.T) {
	for seed := range int64(100) {
		m := newModel(t, seed)
		for i := range m.level {
			m.disks[i].Kill()
		}
		for range 20 {
			m.note()
			if m.r.Intn(3) == 0 {
				m.sync()
			}
			m.look(len(m.notes))
		}
		m.crash()
	}
}
