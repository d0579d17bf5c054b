package name

import (
	"math/rand"
	"slices"
	"strings"
	"testing"
	"unicode"

	"fairway/api"
)

// checkOne holds P7.1 for one text of any bytes.
func checkOne(t *testing.T, s string) {
	t.Helper()
	if e, want := Topic(s), wantTopic(s); e != want {
		t.Errorf("Topic(%.60q): %v, want %v", s, e, want)
	}
	if e, want := Filter(s), wantFilter(s); e != want {
		t.Errorf("Filter(%.60q): %v, want %v", s, e, want)
	}
	shared, group, filter, e := Share(s)
	wantShared, wantGroup, wantRest, want := wantShare(s)
	if shared != wantShared || group != wantGroup || filter != wantRest || e != want {
		t.Errorf("Share(%.60q): %v, %.60q, %.60q, %v, want %v, %.60q, %.60q, %v",
			s, shared, group, filter, e, wantShared, wantGroup, wantRest, want)
	}
	if l := Levels(s); !slices.Equal(l, strings.Split(s, "/")) {
		t.Errorf("Levels(%.60q): %.60q", s, l)
	}
}

// checkPair holds P7.2 for two texts of any bytes.
func checkPair(t *testing.T, filter, topic string) {
	t.Helper()
	if got, want := Match(filter, topic), wantMatch(filter)(topic); got != want {
		t.Errorf("Match(%.60q, %.60q): %v, want %v", filter, topic, got, want)
	}
}

// every says all texts of at most so many letters.
func every(letters []string, size int) []string {
	l := []string{""}
	for from := 0; size > 0; size-- {
		end := len(l)
		for _, s := range l[from:end] {
			for _, letter := range letters {
				l = append(l, s+letter)
			}
		}
		from = end
	}
	return l
}

// levels says a text of so many levels, each the same but the last one.
func levels(n int, each, last string) string {
	return strings.Repeat(each+"/", n-1) + last
}

// P7.1: all short texts of the letters that mean something, alone and as parts of shared filters.
func TestEveryShortText(t *testing.T) {
	for _, s := range every([]string{"a", "é", "/", "+", "#", "$", "\x00"}, 5) {
		checkOne(t, s)
		checkOne(t, "$share/"+s)
		checkOne(t, "$share/g/"+s)
		checkOne(t, "$share"+s)
	}
}

// P7.1: what a table of a few says by itself.
func TestNames(t *testing.T) {
	for _, c := range []struct {
		s             string
		topic, filter api.Errno
	}{
		{"", api.ErrBad, api.ErrBad},
		{"a", api.OK, api.OK},
		{" ", api.OK, api.OK},
		{"/", api.OK, api.OK},
		{"//", api.OK, api.OK},
		{"a//b/", api.OK, api.OK},
		{"$", api.OK, api.OK},
		{"$SYS/a", api.OK, api.OK},
		{"$share", api.OK, api.OK},
		{"$share/g/a", api.OK, api.OK}, // the words leave no name out for how it begins
		{"é/\U0001f600/\ufffd", api.OK, api.OK},
		{"+", api.ErrBad, api.OK},
		{"#", api.ErrBad, api.OK},
		{"+/+", api.ErrBad, api.OK},
		{"+/#", api.ErrBad, api.OK},
		{"/+", api.ErrBad, api.OK},
		{"+/", api.ErrBad, api.OK},
		{"/#", api.ErrBad, api.OK},
		{"a/+/b", api.ErrBad, api.OK},
		{"a/#", api.ErrBad, api.OK},
		{"a+", api.ErrBad, api.ErrBad},
		{"+a", api.ErrBad, api.ErrBad},
		{"++", api.ErrBad, api.ErrBad},
		{"a/b+/c", api.ErrBad, api.ErrBad},
		{"a#", api.ErrBad, api.ErrBad},
		{"#a", api.ErrBad, api.ErrBad},
		{"##", api.ErrBad, api.ErrBad},
		{"+#", api.ErrBad, api.ErrBad},
		{"#+", api.ErrBad, api.ErrBad},
		{"#/", api.ErrBad, api.ErrBad},
		{"#/a", api.ErrBad, api.ErrBad},
		{"#/#", api.ErrBad, api.ErrBad},
		{"a/#/b", api.ErrBad, api.ErrBad},
		{"a/b#", api.ErrBad, api.ErrBad},
		{"a\x00", api.ErrBad, api.ErrBad},
		{"a/\xff", api.ErrBad, api.ErrBad},
		{"a/\x7f/b", api.ErrBad, api.ErrBad},
		{"a/\ufffe", api.ErrBad, api.ErrBad},
	} {
		if e := Topic(c.s); e != c.topic {
			t.Errorf("Topic(%q): %v, want %v", c.s, e, c.topic)
		}
		if e := Filter(c.s); e != c.filter {
			t.Errorf("Filter(%q): %v, want %v", c.s, e, c.filter)
		}
		checkOne(t, c.s)
	}
}

// P7.1: each code point alone, as a level, and as a group.
func TestEveryCodePoint(t *testing.T) {
	for r := range rune(unicode.MaxRune + 1) {
		s := string(r)
		if s == "\ufffd" && r != 0xfffd { // a half is no text
			continue
		}
		want := wantText(s)
		if want == api.OK && (r == '+' || r == '#') {
			want = api.ErrBad
		}
		if e := Topic(s); e != want {
			t.Fatalf("Topic(%q): %v, want %v", s, e, want)
		}
		if e := Filter("a/" + s + "b"); e != want {
			t.Fatalf("Filter(a/%qb): %v, want %v", s, e, want)
		}
		if r == '/' {
			want = api.ErrBad
		}
		if shared, group, _, e := Share("$share/" + s + "/#"); e != want || shared != (want == api.OK) || shared && group != s {
			t.Fatalf("Share of %q: %v, %q, %v, want %v", s, shared, group, e, want)
		}
	}
}

// P7.1: as many levels as may be, and one more, also of a shared filter, whose own levels alone are counted.
func TestLevelLimit(t *testing.T) {
	for _, each := range []string{"a", "", "+", "bb", "a+"} {
		for _, last := range []string{"a", "", "+", "#", "b#"} {
			for n := 14; n <= 19; n++ {
				s := levels(n, each, last)
				checkOne(t, s)
				checkOne(t, "$share/g/"+s)
			}
		}
	}
	if e, f := Topic(levels(16, "a", "")), Topic(levels(17, "a", "")); e != api.OK || f != api.ErrBad {
		t.Errorf("names of 16 and 17 levels: %v, %v", e, f)
	}
	if e, f := Filter(levels(16, "+", "#")), Filter(levels(17, "+", "#")); e != api.OK || f != api.ErrBad {
		t.Errorf("filters of 16 and 17 levels: %v, %v", e, f)
	}
	if shared, _, filter, e := Share("$share/g/" + levels(16, "+", "#")); !shared || filter != levels(16, "+", "#") || e != api.OK {
		t.Errorf("a shared filter of 16 levels: %v, %q, %v", shared, filter, e)
	}
}

// P7.1: the limit is of bytes, and told ahead of what is bad; of a shared filter each part has its own.
func TestByteLimit(t *testing.T) {
	full := strings.Repeat("x", 1024)
	for _, s := range []string{full, full[:1023], full[:1022] + "é", full[:1023] + "é", full[:1022] + "/#", full[:1023] + "/#", full + "x", full + "\x00", "\x00" + full, full + "#", full + full, strings.Repeat("/", 1024), strings.Repeat("/", 1025), strings.Repeat("+", 1024)} {
		checkOne(t, s)
		for _, group := range []string{"g", full, full + "x", full[1:] + "+", ""} {
			checkOne(t, "$share/"+group+"/"+s)
		}
	}
	for _, c := range []struct {
		s    string
		want api.Errno
	}{
		{full, api.OK}, {full + "x", api.ErrLimit}, {full + "\x00", api.ErrLimit}, {"#" + full, api.ErrLimit}, {"#" + full[1:], api.ErrBad},
	} {
		if e, f := Topic(c.s), Filter(c.s); e != c.want || f != c.want {
			t.Errorf("%d bytes, %.3q: %v, %v, want %v", len(c.s), c.s, e, f, c.want)
		}
	}
	if shared, group, filter, e := Share("$share/" + full + "/" + full); !shared || group != full || filter != full || e != api.OK {
		t.Errorf("a shared filter of the longest parts: %v, %d, %d bytes, %v", shared, len(group), len(filter), e)
	}
	for _, s := range []string{"$share/" + full + "x/a", "$share/g/" + full + "x", "$share/" + full + full} {
		if shared, group, filter, e := Share(s); shared || group != "" || filter != "" || e != api.ErrBad {
			t.Errorf("a shared filter of a part too long: %v, %.9q, %.9q, %v", shared, group, filter, e)
		}
	}
}

// P7.1: shared filters, those that are none, and those that only look like one.
func TestShare(t *testing.T) {
	for _, c := range []struct {
		s, group, filter string
		shared           bool
		want             api.Errno
	}{
		{"$share/g/a", "g", "a", true, api.OK},
		{"$share/g/#", "g", "#", true, api.OK},
		{"$share/g/+/b/#", "g", "+/b/#", true, api.OK},
		{"$share/g//", "g", "/", true, api.OK},
		{"$share/é €/$SYS/a", "é €", "$SYS/a", true, api.OK},
		{"$share/$share/$share/a/b", "$share", "$share/a/b", true, api.OK},
		{"$share/", "", "", false, api.ErrBad},
		{"$share//", "", "", false, api.ErrBad},
		{"$share//a", "", "", false, api.ErrBad},
		{"$share/g", "", "", false, api.ErrBad},
		{"$share/g/", "", "", false, api.ErrBad},
		{"$share/+/a", "", "", false, api.ErrBad},
		{"$share/#/a", "", "", false, api.ErrBad},
		{"$share/#", "", "", false, api.ErrBad},
		{"$share/g+/a", "", "", false, api.ErrBad},
		{"$share/g#/a", "", "", false, api.ErrBad},
		{"$share/\x00/a", "", "", false, api.ErrBad},
		{"$share/g\xff/a", "", "", false, api.ErrBad},
		{"$share/g/a+", "", "", false, api.ErrBad},
		{"$share/g/#/a", "", "", false, api.ErrBad},
		{"$share/g/\x00", "", "", false, api.ErrBad},
		{"a/+", "", "a/+", false, api.OK},
		{"#", "", "#", false, api.OK},
		{"$share", "", "$share", false, api.OK},
		{"$shared/g/a", "", "$shared/g/a", false, api.OK},
		{"$Share/g/a", "", "$Share/g/a", false, api.OK},
		{"/$share/g/a", "", "/$share/g/a", false, api.OK},
		{"share/g/a", "", "share/g/a", false, api.OK},
		{"$share#", "", "", false, api.ErrBad},
		{"$shar/#/a", "", "", false, api.ErrBad},
		{"", "", "", false, api.ErrBad},
		{"a+", "", "", false, api.ErrBad},
		{"a\xff", "", "", false, api.ErrBad},
		{strings.Repeat("a", 1025), "", "", false, api.ErrLimit},
	} {
		shared, group, filter, e := Share(c.s)
		if shared != c.shared || group != c.group || filter != c.filter || e != c.want {
			t.Errorf("Share(%.40q): %v, %q, %q, %v, want %v", c.s, shared, group, filter, e, c)
		}
		checkOne(t, c.s)
	}
}

// P7.1: levels, also of what is neither a name nor a filter.
func TestLevels(t *testing.T) {
	for _, c := range []struct {
		s    string
		want []string
	}{
		{"a", []string{"a"}},
		{"a/b/c", []string{"a", "b", "c"}},
		{"/", []string{"", ""}},
		{"/a//é/", []string{"", "a", "", "é", ""}},
		{"+/#", []string{"+", "#"}},
		{"$share/g/a", []string{"$share", "g", "a"}},
		{"", []string{""}},
		{"\xff/\x00\xe2/\x82", []string{"\xff", "\x00\xe2", "\x82"}},
	} {
		if l := Levels(c.s); !slices.Equal(l, c.want) {
			t.Errorf("Levels(%q): %q", c.s, l)
		}
	}
	if l := Levels(strings.Repeat("/", 5000)); len(l) != 5001 {
		t.Errorf("%d levels of 5001", len(l))
	}
}

// P7.2: what matches, what does not, and what can't, as one of both is none.
func TestMatch(t *testing.T) {
	for _, c := range []struct {
		filter, topic string
		want          bool
	}{
		{"a/#", "a", true}, // the document's example
		{"a/#", "a/b/c", true},
		{"a/#", "a/", true},
		{"a/#", "ab", false},
		{"a/#", "b/a", false},
		{"a/b/#", "a", false},
		{"a/+/#", "a", false},
		{"a/+/#", "a/", true},
		{"a/+/#", "a/b", true},
		{"#", "a", true},
		{"#", "/", true},
		{"#", "/$", true},
		{"#", "a/b/c", true},
		{"/#", "/", true},
		{"/#", "/a/b", true},
		{"/#", "a", false},
		{"+", "a", true},
		{"+", "/", false},
		{"+", "a/b", false},
		{"+/+", "/", true},
		{"+/+", "a", false},
		{"+/b", "/b", true},
		{"a/+", "a/", true},
		{"a/+", "a", false},
		{"a/+", "a/b/c", false},
		{"a/+/c", "a/b/c", true},
		{"a/+/c", "a/b/d", false},
		{"a/+/c", "a/b/b/c", false},
		{"a", "A", false},
		{"a", "a/", false},
		{"a/", "a", false},
		{"é", "e\u0301", false}, // two ways to write one letter are two names
		{"#", "$SYS", false},
		{"#", "$", false},
		{"+", "$a", false},
		{"+/a", "$SYS/a", false},
		{"+/#", "$SYS/a", false},
		{"$SYS/#", "$SYS", true},
		{"$SYS/#", "$SYS/a/b", true},
		{"$SYS/+", "$SYS/a", true},
		{"$/#", "$/a", true},
		{"a/+", "a/$b", true},
		{"a/#", "a/$b", true},
		{"/+", "/$b", true},
		{"+/$b", "a/$b", true},
		{"$share/g/a", "a", false},
		{"$share/g/a", "$share/g/a", true},
		{"$share/g/#", "$share/g/a", true},
		{"", "", false},
		{"", "a", false},
		{"#", "", false},
		{"+", "", false},
		{"+", "+", false},
		{"#", "#", false},
		{"#", "a/#", false},
		{"a+", "a+", false},
		{"a/#/b", "a/#/b", false},
		{"#/a", "b/a", false},
		{"a/b#", "a/b", false},
		{"#", "\x00", false},
		{"#", "a/\xff", false},
		{"\x00", "\x00", false},
		{"#", strings.Repeat("a", 1024), true},
		{"#", strings.Repeat("a", 1025), false},
		{strings.Repeat("a", 1025), strings.Repeat("a", 1025), false},
		{"#", levels(16, "a", "b"), true},
		{"#", levels(17, "a", "b"), false},
		{levels(16, "+", "#"), levels(15, "a", "b"), true},
		{levels(16, "+", "#"), levels(14, "a", "b"), false},
		{levels(16, "+", "#"), levels(16, "a", "b"), true},
		{levels(16, "+", "+"), levels(16, "a", "b"), true},
		{levels(17, "a", "b"), levels(17, "a", "b"), false},
		{levels(17, "a", "#"), levels(16, "a", "a"), false},
	} {
		if got := Match(c.filter, c.topic); got != c.want {
			t.Errorf("Match(%.60q, %.60q): %v, want %v", c.filter, c.topic, got, c.want)
		}
		checkPair(t, c.filter, c.topic)
	}
}

// P7.2: all short filters with all short names, and short texts that are neither.
func TestEveryShortPair(t *testing.T) {
	texts := every([]string{"a", "b", "/", "+", "#", "$"}, 4)
	for _, filter := range texts {
		want := wantMatch(filter)
		for _, topic := range texts {
			if got := Match(filter, topic); got != want(topic) {
				t.Fatalf("Match(%q, %q): %v", filter, topic, got)
			}
		}
	}
}

// some says one level of a name or a filter, or what may be none.
func some(r *rand.Rand, l ...string) string {
	return l[r.Intn(len(l))]
}

// P7.2: longer ones, by levels, of which many match.
func TestLongerPairs(t *testing.T) {
	r := rand.New(rand.NewSource(7))
	matched := 0
	for range 50000 {
		n := 1 + r.Intn(17)
		var name, filter []string
		for range n {
			level := some(r, "a", "b", "", "é", "$", ".", "[^/]*")
			name = append(name, level)
			filter = append(filter, some(r, level, level, level, level, "+", "+", some(r, "b", "", "a+", ".")))
		}
		filter = filter[:n-r.Intn(2)*r.Intn(n)]
		if r.Intn(2) == 0 {
			filter = append(filter, "#")
		}
		f, s := strings.Join(filter, "/"), strings.Join(name, "/")
		checkPair(t, f, s)
		checkOne(t, f)
		if Match(f, s) {
			matched++
		}
	}
	if matched < 5000 {
		t.Errorf("only %d match", matched)
	}
}

// P7.3: a name is a filter that matches itself alone.
func TestNameIsAFilter(t *testing.T) {
	var names []string
	for _, s := range every([]string{"a", "é", "/", "$", "."}, 4) {
		if Topic(s) == api.OK {
			names = append(names, s)
		}
	}
	names = append(names, strings.Repeat("x", 1024), levels(16, "", ""), levels(16, "a", "b"), "$share/g/a", "$SYS/a/b")
	for _, s := range names {
		if e := Filter(s); e != api.OK {
			t.Fatalf("Filter(%.40q): %v", s, e)
		}
		for _, topic := range names {
			if Match(s, topic) != (s == topic) {
				t.Fatalf("Match(%.40q, %.40q): %v", s, topic, s != topic)
			}
		}
	}
}

// R2: what is told is one's own.
func TestNothingShared(t *testing.T) {
	first := Levels("a/b/c")
	first[0] = "z"
	_ = append(first, "q")
	if second := Levels("a/b/c"); !slices.Equal(second, []string{"a", "b", "c"}) {
		t.Errorf("Levels tells the same memory twice: %q", second)
	}
}

// P7.1 to P7.3, of any bytes.
func FuzzName(f *testing.F) {
	f.Add("a/#", "a/b/c")
	f.Add("$share/g/+/b", "$SYS/a")
	f.Add("+/\xff", "/\x00")
	f.Add("#", "$")
	f.Fuzz(func(t *testing.T, filter, topic string) {
		for _, s := range []string{filter, topic, "$share/" + filter, "$share/" + filter + "/" + topic} {
			checkOne(t, s)
		}
		checkPair(t, filter, topic)
		checkPair(t, topic, topic)
		checkPair(t, filter+"/#", topic)
		checkPair(t, topic+"/#", topic)
		if Topic(topic) == api.OK && (!Match(topic, topic) || Match(topic, topic+"x")) {
			t.Errorf("%q does not match itself alone", topic)
		}
	})
}
