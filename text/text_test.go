package text

import (
	"slices"
	"strings"
	"testing"
	"unicode"
	"unicode/utf8"

	"fairway/api"
)

// allowed says from the library's tables, not from the package's ranges, which code points may be.
func allowed(r rune) bool {
	if r < 0 || r > unicode.MaxRune {
		return false
	}
	return !unicode.In(r, unicode.Cc, unicode.Cs, unicode.Noncharacter_Code_Point)
}

// allowedText says whether each code point of s may be, whatever its length.
func allowedText(s string) bool {
	return utf8.ValidString(s) && strings.IndexFunc(s, func(r rune) bool { return !allowed(r) }) < 0
}

func wantOf(s string) api.Errno {
	switch {
	case len(s) > api.MaxText:
		return api.ErrLimit
	case !allowedText(s):
		return api.ErrBad
	}
	return api.OK
}

// checkOne holds P1.1 and P1.3 for one text of any bytes.
func checkOne(t *testing.T, s string) {
	t.Helper()
	want := wantOf(s)
	if e := Check(s); e != want {
		t.Errorf("Check(%.40q): %v, want %v", s, e, want)
	}
	l, e := Runes(s)
	if e != want {
		t.Errorf("Runes(%.40q): %v, want %v", s, e, want)
	}
	if want != api.OK {
		if l != nil {
			t.Errorf("Runes(%.40q): a list beside an error", s)
		}
		return
	}
	if !slices.Equal(l, []rune(s)) {
		t.Errorf("Runes(%.40q): %v", s, l)
	}
	if back, e := Of(l); e != api.OK || back != s {
		t.Errorf("Of(Runes(%.40q)): %.40q, %v", s, back, e)
	}
}

// P1.1: each code point, and what is none.
func TestEveryCodePoint(t *testing.T) {
	for r := rune(-3); r <= unicode.MaxRune+3; r++ {
		want, text := api.ErrBad, ""
		if allowed(r) {
			want, text = api.OK, string(r)
		}
		if s, e := Of([]rune{r}); s != text || e != want {
			t.Fatalf("Of(%#x): %q, %v, want %v", r, s, e, want)
		}
		if utf8.ValidRune(r) {
			checkOne(t, string(r))
		}
	}
	for _, r := range []rune{-1 << 31, 1<<31 - 1} {
		if s, e := Of([]rune{'a', r}); s != "" || e != api.ErrBad {
			t.Errorf("Of(%#x): %q, %v", r, s, e)
		}
	}
}

// P1.1: bytes, whole code points or not.
func TestEveryTwoBytes(t *testing.T) {
	for a := range 256 {
		checkOne(t, string([]byte{byte(a)}))
		for b := range 256 {
			checkOne(t, string([]byte{byte(a), byte(b)}))
		}
	}
}

// P1.1: longer sequences that are cut, overlong, halves or beyond the last plane.
func TestLongerSequences(t *testing.T) {
	edges := []byte{'a', 0x80, 0x8f, 0x90, 0x9f, 0xa0, 0xbf, 0xc0, 0xff}
	for _, lead := range []byte{0xe0, 0xe1, 0xec, 0xed, 0xee, 0xef, 0xf0, 0xf1, 0xf3, 0xf4, 0xf5, 0xf8, 0xff} {
		for _, b := range edges {
			for _, c := range edges {
				checkOne(t, string([]byte{lead, b, c}))
				for _, d := range edges {
					checkOne(t, string([]byte{lead, b, c, d}))
					checkOne(t, string([]byte{'a', lead, b, c, d, 'b'}))
				}
			}
		}
	}
	for _, s := range []string{"\ufffd", "\ufffd\xff", "\xff\ufffd", "a\ufffdb", "\xef\xbf", "\xef\xbf\xbda", "\xef\xbf\xef\xbf\xbd"} {
		checkOne(t, s)
	}
}

// P1.1: the limit is of bytes, and is told ahead of what is bad.
func TestLimit(t *testing.T) {
	for _, part := range []string{"x", "é", "€", "\U0001f600"} {
		fits := strings.Repeat(part, api.MaxText/len(part))
		for _, s := range []string{fits, fits + part, "x" + fits, "\x00" + fits, fits + "\xff", fits[1:], fits + fits} {
			checkOne(t, s)
		}
	}
}

// P1.1: of Of's errors the one of the first code point that has one; of a code point's own, the first that is listed.
func TestFirstErrorOfCodePoints(t *testing.T) {
	full := slices.Repeat([]rune{'x'}, api.MaxText)
	wide := slices.Repeat([]rune{'é'}, api.MaxText/2)
	for _, c := range []struct {
		about string
		l     []rune
		want  api.Errno
	}{
		{"as many as may be", full, api.OK},
		{"wide ones, as many as may be", wide, api.OK},
		{"one byte too many", slices.Concat(full, []rune{'x'}), api.ErrLimit},
		{"a wide one that does not fit", slices.Concat(full[1:], []rune{'é'}), api.ErrLimit},
		{"bad, then too long", slices.Concat([]rune{0}, full, full), api.ErrBad},
		{"bad at the limit, then too long", slices.Concat(full[1:], []rune{0, 'x'}), api.ErrBad},
		{"bad where it is too long", slices.Concat(full, []rune{0}), api.ErrBad},
		{"a half where it is too long", slices.Concat(wide, []rune{0xd800}), api.ErrBad},
		{"too long, then bad", slices.Concat(full, []rune{'x', 0}), api.ErrLimit},
	} {
		s, e := Of(c.l)
		if e != c.want || e == api.OK && s != string(c.l) || e != api.OK && s != "" {
			t.Errorf("%s: %.20q, %v, want %v", c.about, s, e, c.want)
		}
	}
}

// P1.1: the document's example, and nothing at all.
func TestExamples(t *testing.T) {
	if l, e := Runes("aé"); e != api.OK || !slices.Equal(l, []rune{97, 233}) {
		t.Errorf("%v, %v", l, e)
	}
	if l, e := Runes(""); e != api.OK || len(l) != 0 {
		t.Errorf("%v, %v", l, e)
	}
	for _, l := range [][]rune{nil, {}} {
		if s, e := Of(l); e != api.OK || s != "" {
			t.Errorf("%q, %v", s, e)
		}
	}
}

// longestBeginning goes over every length, the other way round than the package.
func longestBeginning(s string, n int) string {
	best := ""
	for k := range len(s) + 1 {
		if k <= n && utf8.ValidString(s[:k]) {
			best = s[:k]
		}
	}
	return best
}

// P1.2: beginnings, at every n around the text.
func TestCut(t *testing.T) {
	long := strings.Repeat("é", api.MaxText/2)
	for _, s := range []string{"", "a", "é", "aé", "aéb", "€", "a€b", "\U0001f600", "a\U0001f600é€b", "\ufffd", "a\ufffd"} {
		for n := range len(s) + 3 {
			if got, e := Cut(s, n); e != api.OK || got != longestBeginning(s, n) {
				t.Errorf("Cut(%q, %d): %q, %v", s, n, got, e)
			}
		}
		if got, e := Cut(s, 1<<63-1); e != api.OK || got != s {
			t.Errorf("Cut(%q, the greatest): %q, %v", s, got, e)
		}
	}
	for _, n := range []int{0, 1, api.MaxText - 1, api.MaxText, api.MaxText + 1} {
		if got, e := Cut(long, n); e != api.OK || got != longestBeginning(long, n) {
			t.Errorf("Cut(the longest, %d): %d bytes, %v", n, len(got), e)
		}
	}
}

// P1.2: what is wrong, the text's error first.
func TestCutErrors(t *testing.T) {
	tooLong := strings.Repeat("x", api.MaxText+1)
	for _, c := range []struct {
		s    string
		n    int
		want api.Errno
	}{
		{"a", -1, api.ErrForm},
		{"", -1, api.ErrForm},
		{"a", -1 << 63, api.ErrForm},
		{"\x00", 1, api.ErrBad},
		{"a\x00", 1, api.ErrBad},
		{"a\xff", 0, api.ErrBad},
		{"\x00", -1, api.ErrBad},
		{tooLong, 1, api.ErrLimit},
		{tooLong, -1, api.ErrLimit},
		{"\x00" + tooLong, -1, api.ErrLimit},
	} {
		if s, e := Cut(c.s, c.n); s != "" || e != c.want {
			t.Errorf("Cut(%.20q, %d): %.20q, %v, want %v", c.s, c.n, s, e, c.want)
		}
	}
}

// P1.3: Runes undoes Of; a text behind another one may be, if it is not too long.
func TestWhatFollows(t *testing.T) {
	texts := []string{"", "a", "é", "€b", "\ufffd", "\U0010fffd", "\ud7ff\ue000", strings.Repeat("é", api.MaxText/2), strings.Repeat("x", api.MaxText-1)}
	for _, a := range texts {
		l := []rune(a)
		s, e := Of(l)
		if back, f := Runes(s); e != api.OK || f != api.OK || !slices.Equal(back, l) {
			t.Errorf("Runes(Of(%.20q)): %v, %v", a, e, f)
		}
		for _, b := range texts {
			want := api.OK
			if len(a)+len(b) > api.MaxText {
				want = api.ErrLimit
			}
			if e := Check(a + b); e != want {
				t.Errorf("%.20q and %.20q: %v, want %v", a, b, e, want)
			}
			if s, e := Of(slices.Concat([]rune(a), []rune(b))); e != want || e == api.OK && s != a+b {
				t.Errorf("Of: %.20q and %.20q: %v, want %v", a, b, e, want)
			}
		}
	}
}

// R2: nothing is changed or kept, and what is told is one's own.
func TestNothingShared(t *testing.T) {
	l := []rune{'a', 'b', 'c'}
	s, _ := Of(l[:2])
	l[0] = 'x'
	if s != "ab" || !slices.Equal(l, []rune{'x', 'b', 'c'}) {
		t.Errorf("Of shares or changes its list: %q, %v", s, l)
	}
	first, _ := Runes("aé")
	first[0] = 'z'
	_ = append(first, 'q')
	if second, _ := Runes("aé"); !slices.Equal(second, []rune{'a', 'é'}) {
		t.Errorf("Runes tells the same memory twice: %v", second)
	}
}

// P1.1 to P1.3, of any bytes.
func FuzzText(f *testing.F) {
	for _, s := range []string{"", "aé", "\ufffd\xff", "\xed\xa0\x80", "\U0001f600"} {
		f.Add(s, 3)
	}
	f.Fuzz(func(t *testing.T, s string, n int) {
		checkOne(t, s)
		got, e := Cut(s, n)
		want, cut := wantOf(s), ""
		if want == api.OK && n < 0 {
			want = api.ErrForm
		}
		if want == api.OK {
			cut = longestBeginning(s, n)
		}
		if e != want || got != cut {
			t.Errorf("Cut(%q, %d): %q, %v, want %q, %v", s, n, got, e, cut, want)
		}
	})
}
