package sys

import (
	"fmt"
	"strings"
	"testing"

	"bedrock/api"
)

// wood makes: /d (0755), /d/sub (0777), /d/shut (0700), /d/x, /x (files), /l to d/sub, /loop to itself, /dead to nothing, /lx to x.
func wood(t *testing.T, y *Sys) {
	t.Helper()
	ok(t, y.Mkdir(1, "/d", 0o755))
	ok(t, y.Mkdir(1, "/d/sub", 0o777))
	ok(t, y.Mkdir(1, "/d/shut", 0o700))
	for _, path := range []string{"/x", "/d/x"} {
		ok(t, y.Close(1, open(t, y, 1, path, 7)))
	}
	for path, target := range map[string]string{"/l": "d/sub", "/loop": "loop", "/dead": "none", "/lx": "x"} {
		ok(t, y.Symlink(1, target, path))
	}
}

// Where a path tells that something is made: the directory and the name, or the error.
func TestSpot(t *testing.T) {
	y, _, _ := begun(t)
	wood(t, y)
	d, sub, x := number(t, y, "d"), number(t, y, "d/sub"), number(t, y, "x")
	ok(t, y.Chdir(2, "/d"))
	long := strings.Repeat("n", 41)
	for path, want := range map[string]spot{
		"n": {d, "n"}, "./n": {d, "n"}, "../n": {root, "n"}, "/n": {root, "n"}, "///n": {root, "n"}, "sub/n": {sub, "n"}, "sub//n": {sub, "n"},
		"/l/n": {sub, "n"}, "/l//n": {sub, "n"}, "/l/./../n": {d, "n"}, "x/n": {number(t, y, "d/x"), "n"}, "/lx/n": {x, "n"}, "shut/n": {number(t, y, "d/shut"), "n"},
		"...": {d, "..."}, ".n": {d, ".n"}, long: {d, long}, "/" + long: {root, long}, "a\x00": {d, "a\x00"}, strings.Repeat("/", 399) + "n": {root, "n"},
	} {
		got, err := y.spot(y.procs[2], path)
		if err != nil || got != want {
			t.Errorf("%.50q: %v, %v, wanted %v", path, got, err, want)
		}
	}
	for path, want := range map[string]api.Errno{
		"": api.ErrMissing, strings.Repeat("n", 401): api.ErrLong, strings.Repeat("/", 401): api.ErrLong, strings.Repeat("n", 400) + "/": api.ErrLong,
		"/": api.ErrName, "//": api.ErrName, "n/": api.ErrName, ".": api.ErrName, "..": api.ErrName, "/.": api.ErrName, "none/..": api.ErrName, "none/": api.ErrName, "x/.": api.ErrName,
		"none/n": api.ErrMissing, "x/n/m": api.ErrNotDir, "shut/n/m": api.ErrAccess, "shut/./n": api.ErrAccess, "a\x00/n": api.ErrName, "/loop/n": api.ErrLoop, "/dead/n": api.ErrMissing,
	} {
		_, err := y.spot(y.procs[2], path)
		fails(t, fmt.Sprintf("%.50q", path), err, want)
	}
}

func TestStat(t *testing.T) {
	y, _, _ := begun(t)
	wood(t, y)
	ok(t, y.Chdir(2, "/d"))
	for path, want := range map[string]string{"x": "/d/x", "/lx": "/x", "../l/": "/d/sub", "..": "/", ".": "/d", "/": "/"} {
		n, a, err := y.Stat(2, path, true)
		ok(t, err)
		told, err := y.tree.Stat(number(t, y, want))
		if ok(t, err); n != number(t, y, want) || a != told {
			t.Errorf("%s: %d, %+v", path, n, a)
		}
	}
	n, a, err := y.Stat(2, "/lx", false)
	if ok(t, err); n != number(t, y, "/lx") || a.Kind != api.Link || a.Size != 1 || a.Mode != 0o777 {
		t.Errorf("%d, %+v", n, a)
	}
	for path, want := range map[string]api.Errno{"": api.ErrMissing, "none": api.ErrMissing, "x/": api.ErrNotDir, "shut/x": api.ErrAccess, "/loop": api.ErrLoop, "a\x00": api.ErrName, strings.Repeat(".", 401): api.ErrLong} {
		n, a, err := y.Stat(2, path, true)
		if fails(t, path, err, want); n != 0 || a != (api.Attr{}) {
			t.Errorf("%s: %d, %+v, with an error", path, n, a)
		}
	}
}

func TestMade(t *testing.T) {
	y, _, _ := begun(t)
	wood(t, y)
	ok(t, y.Mkdir(2, "/l/m", 0o2750))
	_, a, err := y.Stat(1, "/d/sub/m", false)
	if ok(t, err); a.Kind != api.Dir || a.Mode != 0o2750 || a.Uid != 1 || a.Gid != 10 || a.Parent != number(t, y, "/d/sub") {
		t.Errorf("%+v", a)
	}
	ok(t, y.Symlink(3, "/d/x", "/l/k"))
	n, a, err := y.Stat(3, "/l/k", false)
	if ok(t, err); a.Kind != api.Link || a.Mode != 0o777 || a.Uid != 2 || a.Gid != 0 {
		t.Errorf("%+v", a)
	}
	target, err := y.tree.Target(n)
	if ok(t, err); target != "/d/x" {
		t.Errorf("%q", target)
	}
	turn := y.tree.Turn()
	for what, x := range map[string]struct {
		err  error
		want api.Errno
	}{
		"a name that is there":   {y.Mkdir(1, "/d", 0o755), api.ErrExists},
		"a link that is there":   {y.Mkdir(1, "/dead", 0o755), api.ErrExists},
		"no directory":           {y.Mkdir(1, "/x/y", 0o755), api.ErrNotDir},
		"no rights":              {y.Mkdir(2, "/n", 0o755), api.ErrAccess},
		"a mode that is none":    {y.Mkdir(1, "/n", 0o10000), api.ErrArg},
		"a mode below 0":         {y.Mkdir(2, "/n", -1), api.ErrArg},
		"a name that is none":    {y.Mkdir(1, "/n\x00", 0o755), api.ErrName},
		"a long name":            {y.Mkdir(1, strings.Repeat("n", 41), -1), api.ErrName},
		"the root":               {y.Mkdir(1, "/", 0o755), api.ErrName},
		"a link to nothing":      {y.Symlink(1, "", "/n"), api.ErrMissing},
		"a long target":          {y.Symlink(2, strings.Repeat("n", 401), "/n"), api.ErrLong},
		"a link in shut":         {y.Symlink(2, "n", "/d/shut/n"), api.ErrAccess},
		"a link that is there  ": {y.Symlink(1, "n", "/l"), api.ErrExists},
	} {
		fails(t, what, x.err, x.want)
	}
	if y.tree.Turn() != turn {
		t.Error("something was changed")
	}
}

func TestLinkRemoveRename(t *testing.T) {
	y, _, _ := begun(t)
	wood(t, y)
	ok(t, y.Link(1, "/lx", "/d/link")) // of the link itself
	if number(t, y, "/d/link") != number(t, y, "/lx") {
		t.Error("the link was followed")
	}
	ok(t, y.Link(1, "/x", "d/y"))
	_, a, err := y.Stat(1, "/d/y", false)
	if ok(t, err); a.Links != 2 || a.Kind != api.File {
		t.Errorf("%+v", a)
	}
	d, x := number(t, y, "/d"), number(t, y, "/x")
	ok(t, y.Rename(1, "/x", "d/x", 0))
	if number(t, y, "d/x") != x {
		t.Error("not moved")
	}
	ok(t, y.Rename(1, "/d", "l/../../e", 1))
	ok(t, y.Rename(1, "/e/sub", "/e/shut", 2))
	if number(t, y, "/e") != d {
		t.Error("not moved")
	}
	ok(t, y.Remove(1, "/e/y"))
	ok(t, y.Remove(1, "/loop"))
	ok(t, y.Remove(1, "/e/shut"))
	turn := y.tree.Turn()
	bad, none, long := "/e/n\x00", "/none", strings.Repeat("n", 401)
	for what, x := range map[string]struct {
		err  error
		want api.Errno
	}{
		"Link none":           {y.Link(1, none, long), api.ErrMissing},
		"Link long":           {y.Link(1, long, ""), api.ErrLong},
		"Link to long":        {y.Link(1, "/e/x", long), api.ErrLong},
		"Link to nothing":     {y.Link(1, "/e/x", ""), api.ErrMissing},
		"Link /":              {y.Link(1, "/e/x", "/"), api.ErrName},
		"Link in none":        {y.Link(1, "/e/x", "/none/y"), api.ErrMissing},
		"Link in a file":      {y.Link(1, "/e/x", "/e/x/y"), api.ErrNotDir},
		"Link a directory":    {y.Link(1, "/e", "/n"), api.ErrIsDir},
		"Link to bad":         {y.Link(1, "/e/x", bad), api.ErrName},
		"Link without rights": {y.Link(2, "/e/x", "/n"), api.ErrAccess},
		"Link to one":         {y.Link(1, "/e/x", "/lx"), api.ErrExists},
		"Remove none":         {y.Remove(1, none), api.ErrMissing},
		"Remove nothing":      {y.Remove(1, ""), api.ErrMissing},
		"Remove .":            {y.Remove(1, "/e/."), api.ErrName},
		"Remove /":            {y.Remove(1, "/e/"), api.ErrName},
		"Remove bad":          {y.Remove(2, bad), api.ErrName},
		"Remove what is not":  {y.Remove(2, "/e/none"), api.ErrAccess},
		"Remove much":         {y.Remove(1, "/e"), api.ErrNotEmpty},
		"Rename none":         {y.Rename(1, "/none/n", long, 9), api.ErrMissing},
		"Rename .":            {y.Rename(1, "/e/.", long, 9), api.ErrName},
		"Rename to long":      {y.Rename(1, none, long, 9), api.ErrLong},
		"Rename to ..":        {y.Rename(1, none, "..", 9), api.ErrName},
		"Rename into none":    {y.Rename(1, bad, "/none/n", 9), api.ErrMissing},
		"Rename badly":        {y.Rename(1, bad, "/n", 9), api.ErrArg},
		"Rename bad":          {y.Rename(2, bad, "/n", 0), api.ErrName},
		"Rename no rights":    {y.Rename(2, "/e/none", "/n", 0), api.ErrAccess},
		"Rename what is not":  {y.Rename(1, none, "/n", 0), api.ErrMissing},
		"Rename into itself":  {y.Rename(1, "/e", "/e/e", 0), api.ErrArg},
		"Rename to one":       {y.Rename(1, "/e", "/lx", 1), api.ErrExists},
		"Rename to a file":    {y.Rename(1, "/e", "/lx", 0), api.ErrNotDir},
	} {
		fails(t, what, x.err, x.want)
	}
	if y.tree.Turn() != turn {
		t.Error("something was changed")
	}
	ok(t, y.Rename(1, "/lx", "/e/link", 0)) // one node: nothing is done
	if y.tree.Turn() != turn {
		t.Error("that was a turn")
	}
}

func TestChange(t *testing.T) {
	y, _, _ := begun(t)
	wood(t, y)
	ok(t, y.Change(1, "/lx", api.Set{What: 15, Mode: 0o640, Uid: 1, Gid: 10, Project: 3}))
	_, a, err := y.Stat(1, "/x", false)
	if ok(t, err); a.Mode != 0o640 || a.Uid != 1 || a.Gid != 10 || a.Project != 3 {
		t.Errorf("%+v", a)
	}
	ok(t, y.Change(2, "/x", api.Set{What: 5, Mode: 0o6600, Gid: 11}))
	_, a, err = y.Stat(1, "/x", false)
	if ok(t, err); a.Mode != 0o600 || a.Gid != 11 {
		t.Errorf("%+v", a)
	}
	turn := y.tree.Turn()
	ok(t, y.Change(2, "/x", api.Set{}))
	for what, x := range map[string]struct {
		err  error
		want api.Errno
	}{
		"none":       {y.Change(1, "/none", api.Set{What: 99}), api.ErrMissing},
		"dead":       {y.Change(1, "/dead", api.Set{What: 99}), api.ErrMissing},
		"wrong":      {y.Change(3, "/x", api.Set{What: 16}), api.ErrArg},
		"another's":  {y.Change(3, "/x", api.Set{What: 1}), api.ErrPerm},
		"for bob":    {y.Change(2, "/x", api.Set{What: 2, Uid: 2}), api.ErrPerm},
		"not behind": {y.Change(2, "/d/shut/x", api.Set{What: 1}), api.ErrAccess},
	} {
		fails(t, what, x.err, x.want)
	}
	if y.tree.Turn() != turn {
		t.Error("something was changed")
	}
}
