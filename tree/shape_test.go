package tree

import (
	"fmt"
	"maps"
	"math/rand"
	"slices"
	"strings"
	"testing"

	"bedrock/api"
)

// keysOf is ways to make keys: short ones, long ones that begin alike, in clusters or by themselves, and all of these.
func keysOf(r *rand.Rand) []func() string {
	short := func() string { return fmt.Sprint(r.Intn(2000)) }
	alike := func() string { return strings.Repeat("k", r.Intn(3)*78) + fmt.Sprintf("%03d", r.Intn(1000)) }
	cluster := func() string { return fmt.Sprintf("%02d%0*d", r.Intn(40), 20+r.Intn(2)*118, r.Intn(40)) }
	comb := func() string { return strings.Repeat("c", r.Intn(api.MaxKey-1)) + fmt.Sprint(r.Intn(3)) }
	tail := func() string { return fmt.Sprintf("%06x", r.Intn(1<<24)) + strings.Repeat("t", r.Intn(150)) }
	l := []func() string{short, alike, cluster, comb, tail}
	return append(l, func() string { return l[r.Intn(len(l))]() })
}

// shaped puts and deletes pairs of a map, with keys of one kind, and looks now and then whether all is as it should be; some of what it was stays as a snapshot.
func shaped(t *testing.T, seed int64, steps int) {
	t.Helper()
	r := rand.New(rand.NewSource(seed))
	all := keysOf(r)
	key, long := all[r.Intn(len(all))], []int{2, 30, 200, api.MaxVal + 1}[r.Intn(4)]
	p, _ := made(t, api.Shape{Data: 1 + r.Intn(3)}, 1<<18)
	m, want := New(p), map[string]string{}
	taken := []*Map{m}
	var told [][]string
	grow := 60
	for i := range steps {
		if i%(steps/6) == 0 {
			grow = []int{85, 50, 15}[r.Intn(3)]
		}
		k := key()
		if r.Intn(100) >= grow {
			k = near(r, want, k)
			if _, in := want[k]; in {
				ok(t, m.Del([]byte(k)))
				delete(want, k)
			} else {
				is(t, m.Del([]byte(k)), api.ErrMissing)
			}
			continue
		}
		want[k] = strings.Repeat("v", r.Intn(long))
		put(t, m, k, want[k])
		if i%(steps/3) == steps/6 {
			taken, told = append(taken, snapped(t, m)), append(told, lines(want))
		}
	}
	audit(t, p, nil, taken...)
	tells(t, m, lines(want)...)
	for i, s := range taken[1:] {
		tells(t, s, told[i]...)
		ok(t, s.Free())
	}
	audit(t, p, nil, m)
	for _, k := range slices.Sorted(maps.Keys(want)) {
		ok(t, m.Del([]byte(k)))
	}
	used(t, p, 0)
}

// near is a key that is there, if one is found soon; else k.
func near(r *rand.Rand, want map[string]string, k string) string {
	if r.Intn(4) == 0 {
		return k
	}
	l := slices.Sorted(maps.Keys(want))
	if len(l) == 0 {
		return k
	}
	i, _ := slices.BinarySearch(l, k)
	return l[min(i, len(l)-1)]
}

func lines(want map[string]string) []string {
	var l []string
	for _, k := range slices.Sorted(maps.Keys(want)) {
		l = append(l, k+"="+want[k])
	}
	return l
}

// TestShapes: a map tells just what was put into it, whatever its keys are like, and takes no rows without pairs.
func TestShapes(t *testing.T) {
	for seed := range int64(40) {
		shaped(t, seed, 1200)
	}
}
