package dir

import (
	"math/rand"
	"strings"
	"testing"
	"unicode"
	"unicode/utf8"
)

func TestGood(t *testing.T) {
	long := strings.Repeat("n", 40)
	for _, name := range []string{"a", " ", "...", ".a", "a.", "..a", ". ", long, strings.Repeat("Ä", 20), strings.Repeat("\xff", 40), "\x01", "\x7f", "\\", "\n", "a\x80b", "ÄÖ", "\xef\xbf\xbd"} {
		if !Good(name) {
			t.Errorf("%q is not Good", name)
		}
	}
	for _, name := range []string{"", ".", "..", "/", "a/", "/a", "a/b", "\x00", "a\x00", "\x00a", long + "n", strings.Repeat("Ä", 20) + "a", strings.Repeat("€", 14), "12345678901/", "12345678901\x00", strings.Repeat("n", 1000)} {
		if Good(name) {
			t.Errorf("%q is Good", name)
		}
	}
}

// TestGoodBytes: of one byte all names are Good but three; so they are within others.
func TestGoodBytes(t *testing.T) {
	for b := range 256 {
		s := string([]byte{byte(b)})
		if want := b != 0 && b != '/'; Good("ab"+s) != want || Good(s+"ab") != want || Good("\xff"+s+"\xff") != want {
			t.Errorf("with the byte %d it is Good: %v", b, !want)
		}
		if want := b != 0 && b != '/' && b != '.'; Good(s) != want {
			t.Errorf("the byte %d alone is Good: %v", b, !want)
		}
	}
}

func folds(t *testing.T, name, want string) {
	t.Helper()
	if got := Fold(name); got != want {
		t.Errorf("Fold(%q) is %q, wanted %q", name, got, want)
	}
}

func TestFold(t *testing.T) {
	folds(t, "", "")
	folds(t, "ÄÖÞ×ß", "äöþ×ß")
	folds(t, "ΑΣΫς", "ασϋσ")
	folds(t, "@AZ[`az{", "@az[`az{")
	folds(t, "ЀЏАЯабя", "ѐџаяабя")
	folds(t, "\u1f48 \u0130 \u212a \u212b \u0100 \u0178 \u038c \u0460", "\u1f48 \u0130 \u212a \u212b \u0100 \u0178 \u038c \u0460") // letters with another case, of which 10.2 says nothing
	folds(t, "\U0001d400Z", "\U0001d400z")
	folds(t, "a/B\x00C", "a/b\x00c")
}

// capital tells whether a rune is one of the ranges that 10.2 names, whose letters' other case is the library's.
func capital(r rune) bool {
	ranges := &unicode.RangeTable{R16: []unicode.Range16{{0x41, 0x5a, 1}, {0xc0, 0xd6, 1}, {0xd8, 0xde, 1}, {0x391, 0x3a1, 1}, {0x3a3, 0x3ab, 1}, {0x400, 0x42f, 1}}, LatinOffset: 3}
	return unicode.Is(ranges, r)
}

func TestFoldOfAllRunes(t *testing.T) {
	for r := rune(0); r <= unicode.MaxRune; r++ {
		want := r
		switch {
		case capital(r):
			want = unicode.ToLower(r)
		case r == 'ς':
			want = 'σ'
		}
		if got := Fold(string(r)); got != string(want) {
			t.Errorf("Fold of %x is %q, wanted %q", r, got, string(want))
		}
	}
}

// TestFoldOfBytes: what is no UTF-8 stays, whatever stands beside it.
func TestFoldOfBytes(t *testing.T) {
	folds(t, "\xff", "\xff")
	folds(t, "\xffA\xc3", "\xffa\xc3")
	folds(t, "\xc3", "\xc3")
	folds(t, "\xc3A\x84", "\xc3a\x84")
	folds(t, "\x84\xc3\x84", "\x84\xc3\xa4")
	folds(t, "\xc1\x81", "\xc1\x81")                                   // A, too long
	folds(t, "\xe0\x83\x84", "\xe0\x83\x84")                           // Ä, too long
	folds(t, "\xed\xa0\x80\xed\xb0\x80Z", "\xed\xa0\x80\xed\xb0\x80z") // halves of a pair
	folds(t, "\xf4\x90\x80\x80A", "\xf4\x90\x80\x80a")                 // above all runes
	folds(t, "\xd0", "\xd0")
	folds(t, "\xef\xbf\xbdA", "\xef\xbf\xbda")
}

// piece is some runes, letters of 10.2's among them.
func piece(r *rand.Rand) string {
	var b []rune
	for range r.Intn(6) {
		b = append(b, []rune{rune(r.Intn(0x80)), rune(0xb0 + r.Intn(0x60)), rune(0x380 + r.Intn(0x50)), rune(0x3f0 + r.Intn(0x80)), rune(r.Intn(0x11000)), 0x3c2}[r.Intn(6)])
	}
	return string(b)
}

// TestFoldOnce is 10.6.
func TestFoldOnce(t *testing.T) {
	r := rand.New(rand.NewSource(10))
	for range 20000 {
		s, u := piece(r), piece(r)
		if Fold(s+u) != Fold(s)+Fold(u) {
			t.Fatalf("Fold of %q and %q together is another one", s, u)
		}
		torn := []byte(s + u)
		for i := range torn {
			if r.Intn(4) == 0 {
				torn[i] = byte(r.Intn(256))
			}
		}
		for _, x := range []string{s, u, string(torn)} {
			f := Fold(x)
			if len(f) != len(x) || Fold(f) != f || utf8.ValidString(f) != utf8.ValidString(x) {
				t.Fatalf("Fold(%q) is %q", x, f)
			}
			if Good(f) != Good(x) {
				t.Fatalf("Good of %q and of %q is not the same", x, f)
			}
		}
	}
}

// TestFoldLong: a text of any length is folded.
func TestFoldLong(t *testing.T) {
	folds(t, strings.Repeat("AÄ\xffΣЯЀ€", 100000), strings.Repeat("aä\xffσяѐ€", 100000))
}
