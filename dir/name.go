package dir

import (
	"strings"
	"unicode/utf8"

	"bedrock/api"
)

// Fold is a name whose capitals are exchanged for small letters.
func Fold(name string) string {
	b := []byte(name)
	for i, r := range name {
		// A byte that is no UTF-8 comes as another rune: it must not be written back.
		if s := small(r); s != r {
			utf8.EncodeRune(b[i:], s) // as many bytes as r has
		}
	}
	return string(b)
}

// small is the rune for which one is exchanged: itself, of most.
func small(r rune) rune {
	switch {
	case r == 0xd7 || r == 0x3a2: // no letters, though they stand among some
		return r
	case within(r, 'A', 'Z'), within(r, 0xc0, 0xde), within(r, 0x391, 0x3ab), within(r, 0x410, 0x42f):
		return r + 0x20
	case within(r, 0x400, 0x40f):
		return r + 0x50
	case r == 0x3c2:
		return 0x3c3
	}
	return r
}

func within(r, first, last rune) bool { return first <= r && r <= last }

// Good tells whether a name is one.
func Good(name string) bool {
	if len(name) == 0 || len(name) > api.MaxName || name == "." || name == ".." {
		return false
	}
	return !strings.ContainsAny(name, "/\x00")
}

// one is what all names have in common that are one name.
func one(name string, fold bool) string {
	if fold {
		return Fold(name)
	}
	return name
}
