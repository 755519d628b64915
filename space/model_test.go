package space

import (
	"math/bits"
	"math/rand"
	"slices"
	"testing"

	"bedrock/api"
)

// model knows of each row whether it is free (0), held (-1), or of which run (its number).
type model struct {
	t    *testing.T
	r    *rand.Rand
	s    *Space
	rows []int
	runs map[int]*api.Run // by their numbers
	old  map[int]bool     // those that were there at the last Turn
	made int
}

func newModel(t *testing.T, seed int64) *model {
	r := rand.New(rand.NewSource(seed))
	n := r.Intn(200)
	return &model{t: t, r: r, s: space(t, n), rows: make([]int, n), runs: map[int]*api.Run{}, old: map[int]bool{}}
}

func (m *model) take() {
	n := 1 + m.r.Intn(1+m.r.Intn(12))
	at, free := -1, 0
	for i, x := range m.rows {
		if free++; x != 0 {
			free = 0
		}
		if free == n {
			at = i - n + 1
			break
		}
	}
	tag := m.r.Uint64()
	got, err := m.s.Take(n, tag)
	if at < 0 {
		is(m.t, err, api.ErrRoom)
		return
	}
	ok(m.t, err)
	if got != at {
		m.t.Fatalf("Take(%d) is %d, wanted %d", n, got, at)
	}
	m.made++
	m.runs[m.made] = &api.Run{At: at, N: n, Count: 1, Tag: tag}
	m.fill(m.made, m.made)
}

func (m *model) fill(run, with int) {
	for i := range m.runs[run].N {
		m.rows[m.runs[run].At+i] = with
	}
}

// some is a place, and the number of the run that begins there (0: none).
func (m *model) some() (int, int) {
	at := m.r.Intn(len(m.rows)+4) - 2
	for run, x := range m.runs {
		if x.At == at {
			return at, run
		}
	}
	return at, 0
}

func (m *model) share() {
	at, run := m.some()
	err := m.s.Share(at)
	if run == 0 {
		is(m.t, err, api.ErrPlace)
		return
	}
	ok(m.t, err)
	m.runs[run].Count++
}

func (m *model) drop() {
	at, run := m.some()
	err := m.s.Drop(at)
	if run == 0 {
		is(m.t, err, api.ErrPlace)
		return
	}
	ok(m.t, err)
	m.runs[run].Count--
	if m.runs[run].Count > 0 {
		return
	}
	with := 0
	if m.old[run] {
		with = -1
	}
	m.fill(run, with)
	delete(m.runs, run)
}

func (m *model) turn() {
	for i, x := range m.rows {
		m.rows[i] = max(x, 0)
	}
	for run := range m.runs {
		m.old[run] = true
	}
}

func (m *model) step() {
	switch k := m.r.Intn(40); {
	case k < 16:
		m.take()
	case k < 20:
		m.share()
	case k < 36:
		m.drop()
	case k < 37:
		m.s.Turn()
		m.turn()
	case k < 38:
		n := m.r.Intn(10)
		ok(m.t, m.s.Grow(n))
		m.rows = append(m.rows, make([]int, n)...)
	case k < 39:
		c := m.s.Copy()
		for c.Rows().Free > 0 { // what is done with the copy is not to be seen
			c.Take(1, 1)
		}
		c.Turn()
	default:
		var err error
		m.s, err = Load(m.s.Bytes())
		ok(m.t, err)
		m.turn()
	}
}

func (m *model) look() {
	var want []api.Run
	var rows api.Rows
	for i, x := range m.rows {
		switch {
		case x < 0:
			rows.Held++
		case x == 0:
			rows.Free++
		default:
			rows.Used++
			if r := *m.runs[x]; r.At == i {
				want = append(want, r)
			}
		}
	}
	if got := m.s.Rows(); got != rows {
		m.t.Fatalf("rows: %+v, wanted %+v", got, rows)
	}
	if got := slices.Collect(m.s.Runs()); !slices.Equal(got, want) {
		m.t.Fatalf("Runs: %v, wanted %v", got, want)
	}
	at, run := m.some()
	r, err := m.s.Find(at)
	if run == 0 {
		is(m.t, err, api.ErrPlace)
	} else if err != nil || r != *m.runs[run] {
		m.t.Fatalf("Find(%d): %+v, %v, wanted %+v", at, r, err, *m.runs[run])
	}
	n := 0
	for range m.s.pieces() {
		n++
	}
	if m.s.list.depth() > 2*bits.Len(uint(n)) {
		m.t.Fatalf("a list of %d pieces is %d deep", n, m.s.list.depth())
	}
}

// end drops all runs: all rows are free behind a Turn.
func (m *model) end() {
	for _, r := range slices.Collect(m.s.Runs()) {
		for range r.Count {
			ok(m.t, m.s.Drop(r.At))
		}
	}
	m.s.Turn()
	rows(m.t, m.s, 0, 0, len(m.rows))
}

func TestAgainstModel(t *testing.T) {
	for seed := range int64(150) {
		m := newModel(t, seed)
		for range 400 {
			m.step()
			m.look()
		}
		m.end()
	}
}
