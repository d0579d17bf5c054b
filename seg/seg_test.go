package seg

import (
	"math"
	"math/rand"
	"slices"
	"strconv"
	"strings"
	"testing"

	"fairway/api"
	"fairway/rec"
)

// sample says a segment that may be: Offsets with gaps between, Times that stand still, records of all sorts.
func sample() api.Seg {
	return api.Seg{Base: 10, Recs: []api.Rec{
		{Offset: 10, Time: 5, Key: "k", Body: "first"},
		{Offset: 11, Time: 5, Body: "\x00\xffé", QoS: 1},
		{Offset: 15, Time: 5},
		{Offset: 16, Time: 9, Key: "k", QoS: 2, Gone: true},
		{Offset: 1000, Time: 9, Key: "other", Body: strings.Repeat("b", 300)},
		{Offset: 1<<40 - 1, Time: 1 << 40},
	}}
}

// many says a segment of n records, from Base on.
func many(base, n int) api.Seg {
	g := api.Seg{Base: base}
	for i := range n {
		g.Recs = append(g.Recs, api.Rec{Offset: base + i, Time: i / 3, Key: strconv.Itoa(i % 7), Body: strconv.Itoa(i)})
	}
	return g
}

// changed says the sample, changed.
func changed(change func(*api.Seg)) api.Seg {
	g := sample()
	change(&g)
	return g
}

// badRecs says records that may not be, each for another reason.
func badRecs() []api.Rec {
	long := strings.Repeat("x", 1025)
	return []api.Rec{
		{Offset: -1},
		{Offset: 1 << 40, Time: 1 << 40},
		{Offset: math.MaxInt, Time: 1 << 40},
		{Offset: 20, Time: -1},
		{Offset: 20, Time: 1<<40 + 1},
		{Offset: 20, Time: 9, Key: long},
		{Offset: 20, Time: 9, Body: long},
		{Offset: 20, Time: 9, QoS: -1},
		{Offset: 20, Time: 9, QoS: 3},
		{Offset: 20, Time: 9, Body: "b", Gone: true},
	}
}

// checkForm holds that every call that takes a segment tells ErrForm, and nothing beside it.
func checkForm(t *testing.T, about string, g api.Seg) {
	t.Helper()
	x, added := Add(g, api.Rec{Offset: 1<<40 - 1, Time: 1 << 40})
	n, sized := Size(g)
	s, written := Text(g)
	r, found := Find(g, 0)
	q, since := Since(g, 0)
	_, none := Find(g, math.MaxInt)
	_, never := Since(g, math.MaxInt)
	for i, e := range []api.Errno{Check(g), added, sized, written, found, since, none, never} {
		if e != api.ErrForm {
			t.Errorf("%s: call %d: %v", about, i, e)
		}
	}
	if x.Base != 0 || len(x.Recs) > 0 || n != 0 || s != "" || r != (api.Rec{}) || q != (api.Rec{}) {
		t.Errorf("%s: beside ErrForm: %v, %d, %q, %v, %v", about, x, n, s, r, q)
	}
	checkSeg(t, g)
	for _, r := range append(badRecs(), sample().Recs...) {
		checkAdd(t, g, r)
	}
}

// P11.1: a Base within its bounds and beyond them, with and without records.
func TestBases(t *testing.T) {
	for _, n := range []int{math.MinInt, -1 << 40, -2, -1, 0, 1, 2, 9, 10, 11, 1<<31 - 1, 1 << 32, 1<<40 - 2, 1<<40 - 1, 1 << 40, 1<<40 + 1, 1 << 41, math.MaxInt} {
		empty := api.Seg{Base: n}
		last := api.Seg{Base: n, Recs: []api.Rec{{Offset: 1<<40 - 1}}}
		for _, c := range []struct {
			g   api.Seg
			may bool
		}{
			{empty, n >= 0 && n <= 1<<40},
			{last, n >= 0 && n <= 1<<40-1},
			{changed(func(g *api.Seg) { g.Base = n }), n >= 0 && n <= 10},
		} {
			if !c.may {
				checkForm(t, "Base "+strconv.Itoa(n), c.g)
			} else if e := Check(c.g); e != api.OK {
				t.Errorf("Base %d, %d records: %v", n, len(c.g.Recs), e)
			}
			checkSeg(t, c.g)
			checkAdd(t, c.g, api.Rec{Offset: n})
			checkAdd(t, c.g, api.Rec{Offset: n - 1})
			checkAdd(t, c.g, api.Rec{Offset: 1<<40 - 1, Time: 1 << 40})
		}
		for _, s := range []string{"", "none", laid(sample().Recs...), laid(last.Recs...)} {
			g, k, e := Parse(n, s)
			if may := n >= 0 && n <= 1<<40; may != (e == api.OK) || !may && (e != api.ErrForm || k != 0 || g.Base != 0 || len(g.Recs) > 0) || may && g.Base != n {
				t.Errorf("Parse(%d, %.20q): %s, %d, %v", n, s, brief(g), k, e)
			}
			checkParse(t, n, s)
		}
	}
}

// P11.1: a record that may not be, at each place.
func TestBadRecords(t *testing.T) {
	for i := range len(sample().Recs) + 1 {
		for k, bad := range badRecs() {
			about := strconv.Itoa(k) + " at " + strconv.Itoa(i)
			checkForm(t, about, changed(func(g *api.Seg) { g.Recs = slices.Insert(g.Recs, i, bad) }))
			if i < len(sample().Recs) {
				checkForm(t, about, changed(func(g *api.Seg) { g.Recs[i] = bad }))
			}
		}
	}
	for k, bad := range badRecs() {
		for _, g := range []api.Seg{{}, sample(), many(3, 4), many(3, 200)} {
			if x, e := Add(g, bad); e != api.ErrForm || x.Base != 0 || len(x.Recs) > 0 {
				t.Errorf("Add of %d: %s, %v", k, brief(x), e)
			}
			checkAdd(t, g, bad)
		}
	}
}

// P11.1: Offsets that rise, stand still and fall, at each place, also to below Base.
func TestOffsets(t *testing.T) {
	for i := range len(sample().Recs) {
		for _, d := range []int{-1 << 40, -985, -984, -983, -6, -5, -4, -3, -2, -1, 0, 1, 2, 3, 4, 5, 983, 984, 985, 1<<40 - 1001, 1<<40 - 1000} {
			g := changed(func(g *api.Seg) { g.Recs[i].Offset += d })
			may := g.Recs[i].Offset >= g.Base && g.Recs[i].Offset < 1<<40
			if i > 0 {
				may = may && g.Recs[i].Offset > g.Recs[i-1].Offset
			}
			if i < len(g.Recs)-1 {
				may = may && g.Recs[i].Offset < g.Recs[i+1].Offset
			}
			if !may {
				checkForm(t, "Offset "+strconv.Itoa(i)+" by "+strconv.Itoa(d), g)
			} else if e := Check(g); e != api.OK {
				t.Errorf("Offset %d by %d: %v", i, d, e)
			}
			checkSeg(t, g)
		}
	}
}

// P11.1: Times that rise, stand still and fall, at each place.
func TestTimes(t *testing.T) {
	for i := range len(sample().Recs) {
		for _, d := range []int{-1 << 40, -9, -6, -5, -4, -3, -1, 0, 1, 3, 4, 5, 1<<40 - 10, 1<<40 - 9, 1<<40 - 5} {
			g := changed(func(g *api.Seg) { g.Recs[i].Time += d })
			may := g.Recs[i].Time >= 0 && g.Recs[i].Time <= 1<<40
			if i > 0 {
				may = may && g.Recs[i].Time >= g.Recs[i-1].Time
			}
			if i < len(g.Recs)-1 {
				may = may && g.Recs[i].Time <= g.Recs[i+1].Time
			}
			if !may {
				checkForm(t, "Time "+strconv.Itoa(i)+" by "+strconv.Itoa(d), g)
			} else if e := Check(g); e != api.OK {
				t.Errorf("Time %d by %d: %v", i, d, e)
			}
			checkSeg(t, g)
		}
	}
}

// P11.1: records of one segment that change places.
func TestSwapped(t *testing.T) {
	n := len(sample().Recs)
	for i := range n {
		for k := range n {
			g := changed(func(g *api.Seg) { g.Recs[i], g.Recs[k] = g.Recs[k], g.Recs[i] })
			if i != k {
				checkForm(t, strconv.Itoa(i)+" for "+strconv.Itoa(k), g)
			}
			checkSeg(t, g)
			checkParse(t, g.Base, laid(g.Recs...))
			checkSeg(t, changed(func(g *api.Seg) { g.Recs = slices.Delete(g.Recs, i, max(i, k)) }))
		}
	}
}

// P11.1: MaxRecs records, one fewer and some more.
func TestMost(t *testing.T) {
	for _, base := range []int{0, 7, 1<<40 - 204} {
		for _, n := range []int{0, 1, 199, 200, 201, 202, 203} {
			g := many(base, n)
			if n > 200 {
				checkForm(t, strconv.Itoa(n)+" records", g)
			} else if e := Check(g); e != api.OK {
				t.Errorf("%d records: %v", n, e)
			}
			checkSeg(t, g)
			next := api.Rec{Offset: base + n, Time: 100}
			if _, e := Add(g, next); (e == api.OK) != (n < 200) || e != api.OK && e != api.ErrForm {
				t.Errorf("Add to %d records: %v", n, e)
			}
			checkAdd(t, g, next)
			s := laid(g.Recs...)
			x, k, e := Parse(base, s)
			fit := laid(g.Recs[:min(n, 200)]...)
			if len(x.Recs) != min(n, 200) || k != len(fit) || e != api.OK {
				t.Errorf("Parse of %d records: %d, %d bytes of %d, %v", n, len(x.Recs), k, len(fit), e)
			}
			checkParse(t, base, s)
		}
	}
}

// P11.1: a segment built record by record.
func TestAdd(t *testing.T) {
	want := sample()
	g := api.Seg{Base: want.Base}
	size := 0
	for i, r := range want.Recs {
		x, e := Add(g, r)
		if e != api.OK || !same(x, api.Seg{Base: 10, Recs: want.Recs[:i+1]}) {
			t.Fatalf("Add of %d: %v, %v", i, x, e)
		}
		if len(g.Recs) != i {
			t.Fatalf("Add of %d changed what it was given: %v", i, g)
		}
		g = x
		k, _ := rec.Size(r)
		size += k
		if n, e := Size(g); n != size || e != api.OK {
			t.Errorf("Size of %d: %d, %v, want %d", i+1, n, e, size)
		}
	}
	for _, r := range want.Recs {
		checkAdd(t, want, r) // there is nothing above the last Offset
	}
}

// P11.1: what may be added stands behind, not between; at the same Time or later.
func TestAddPlaces(t *testing.T) {
	g := api.Seg{Base: 10, Recs: []api.Rec{{Offset: 12, Time: 5}, {Offset: 20, Time: 7}}}
	for offset := -2; offset < 25; offset++ {
		for time := -1; time < 10; time++ {
			r := api.Rec{Offset: offset, Time: time, Body: "new"}
			want := api.OK
			if offset <= 20 || time < 7 {
				want = api.ErrForm
			}
			if _, e := Add(g, r); e != want {
				t.Errorf("Offset %d, Time %d: %v, want %v", offset, time, e, want)
			}
			checkAdd(t, g, r)
			want = api.OK
			if offset < 10 || time < 0 {
				want = api.ErrForm
			}
			if _, e := Add(api.Seg{Base: 10}, r); e != want {
				t.Errorf("the first one, Offset %d, Time %d: %v, want %v", offset, time, e, want)
			}
			checkAdd(t, api.Seg{Base: 10}, r)
		}
	}
}

// P11.1: Size and Text of some, written out.
func TestKnown(t *testing.T) {
	zeros := strings.Repeat("\x00", 19)
	bare := "\x00\x13" + "\xed\x95\x98\x95" + zeros
	full := "\x00\x15" + "\xd1\x23\x28\x90" + zeros[:7] + "\x01" + zeros[:7] + "\x02" + "\x01" + "\x00\x01k" + "v"
	two := api.Seg{Recs: []api.Rec{{}, {Offset: 1, Time: 2, Key: "k", Body: "v", QoS: 1}}}
	for _, c := range []struct {
		g    api.Seg
		want string
	}{
		{api.Seg{}, ""},
		{api.Seg{Base: 1 << 40}, ""},
		{api.Seg{Recs: two.Recs[:1]}, bare},
		{two, bare + full},
		{api.Seg{Base: 1, Recs: two.Recs[1:]}, full},
	} {
		s, e := Text(c.g)
		n, f := Size(c.g)
		if s != c.want || n != len(c.want) || e != api.OK || f != api.OK {
			t.Errorf("%v: %q, %v, %d, %v, want %q", c.g, s, e, n, f, c.want)
		}
		g, k, e := Parse(c.g.Base, c.want)
		if !same(g, c.g) || k != len(c.want) || e != api.OK {
			t.Errorf("Parse(%d, %q): %v, %d, %v", c.g.Base, c.want, g, k, e)
		}
	}
}

// P11.1: the greatest segment there is.
func TestGreatest(t *testing.T) {
	long := strings.Repeat("0123456789abcdef", 64)
	g := api.Seg{Base: 1<<40 - 200}
	for i := range 200 {
		g.Recs = append(g.Recs, api.Rec{Offset: g.Base + i, Time: 1 << 40, Key: long, Body: long, QoS: 2})
	}
	if n, e := Size(g); n != 200*(25+2048) || e != api.OK {
		t.Errorf("%d, %v", n, e)
	}
	checkSeg(t, g)
	checkParse(t, g.Base, laid(g.Recs...)+laid(g.Recs...))
}

// P11.1 and P11.3: a text cut off anywhere is a beginning of the segment.
func TestCut(t *testing.T) {
	for _, g := range []api.Seg{sample(), many(3, 9), {Base: 5}} {
		s := laid(g.Recs...)
		for n := range len(s) + 1 {
			whole, size := 0, 0
			for _, r := range g.Recs {
				k, _ := rec.Size(r)
				if size+k > n {
					break
				}
				whole, size = whole+1, size+k
			}
			x, k, e := Parse(g.Base, s[:n])
			if !same(x, api.Seg{Base: g.Base, Recs: g.Recs[:whole]}) || k != size || e != api.OK {
				t.Fatalf("cut at %d: %s, %d, %v, want %d records", n, brief(x), k, e, whole)
			}
			checkParse(t, g.Base, s[:n])
		}
	}
}

// P11.1: a text of which a bit is turned ends ahead of the record that had it, whatever stands behind it.
func TestTurned(t *testing.T) {
	g := sample()
	s := laid(g.Recs...)
	at, ends := 0, []int{}
	for _, r := range g.Recs {
		k, _ := rec.Size(r)
		at += k
		ends = append(ends, at)
	}
	for i := range 8 * len(s) {
		b := []byte(s)
		b[i/8] ^= 1 << (i % 8)
		n := 0
		for ends[n] <= i/8 {
			n++
		}
		x, k, e := Parse(10, string(b))
		if !same(x, api.Seg{Base: 10, Recs: g.Recs[:n]}) || k != len(laid(g.Recs[:n]...)) || e != api.OK {
			t.Fatalf("bit %d: %s, %d, %v, want %d records", i, brief(x), k, e, n)
		}
	}
}

// P11.1: bytes that are no records, and records that may not be behind those ahead of them, at each place.
func TestParseEnds(t *testing.T) {
	g := many(10, 5) // Times 0 0 0 1 1
	last := laid(g.Recs[4])
	for _, c := range []struct {
		about string
		s     func(next, time int) string
	}{
		{"a byte", func(int, int) string { return "\x00" }},
		{"zeros", func(int, int) string { return strings.Repeat("\x00", 40) }},
		{"half a record", func(next, time int) string { return laid(api.Rec{Offset: next, Time: time})[:20] }},
		{"an Offset below Base", func(_, time int) string { return laid(api.Rec{Offset: 9, Time: time}) }},
		{"the Offset ahead", func(next, time int) string { return laid(api.Rec{Offset: next - 1, Time: time}) }},
		{"an Offset of 0", func(_, time int) string { return laid(api.Rec{Time: time}) }},
	} {
		for i := range len(g.Recs) + 1 {
			s := laid(g.Recs[:i]...) + c.s(10+i, 3) + laid(g.Recs[i:]...) + last
			x, k, e := Parse(10, s)
			if !same(x, api.Seg{Base: 10, Recs: g.Recs[:i]}) || k != len(laid(g.Recs[:i]...)) || e != api.OK {
				t.Errorf("%s behind %d: %v, %d, %v", c.about, i, x, k, e)
			}
			checkParse(t, 10, s)
		}
	}
	for i := range 4 {
		s := laid(g.Recs[:i+1]...) + laid(api.Rec{Offset: 99, Time: g.Recs[i].Time}, api.Rec{Offset: 100, Time: 5}, api.Rec{Offset: 101, Time: 4}, api.Rec{Offset: 102, Time: 5})
		x, k, e := Parse(10, s)
		if len(x.Recs) != i+3 || k != len(laid(x.Recs...)) || e != api.OK {
			t.Errorf("a Time that falls behind %d: %v, %d, %v", i+3, x, k, e)
		}
		checkParse(t, 10, s)
	}
}

// P11.1: one text from Bases up to and beyond its first Offset; records further on do not stand in for the first one.
func TestParseBases(t *testing.T) {
	s := laid(sample().Recs...)
	for base := range 1002 {
		g, k, e := Parse(base, s)
		if want := base <= 10; (len(g.Recs) == 6) != want || (k == len(s)) != want || !want && (len(g.Recs) > 0 || k != 0) || g.Base != base || e != api.OK {
			t.Errorf("Base %d: %d records, %d bytes, %v", base, len(g.Recs), k, e)
		}
		checkParse(t, base, s)
	}
}

// P11.2: each number around each Offset and each Time, and numbers that none can have.
func TestFirst(t *testing.T) {
	for _, g := range []api.Seg{{}, {Base: 1 << 40}, {Base: 5, Recs: []api.Rec{{Offset: 7, Time: 3}}}, sample(), many(0, 200), many(1<<40-200, 200)} {
		numbers := []int{math.MinInt, -1, 0, 1, 1<<40 - 1, 1 << 40, 1<<40 + 1, math.MaxInt}
		for _, r := range g.Recs {
			for d := -2; d <= 2; d++ {
				numbers = append(numbers, r.Offset+d, r.Time+d)
			}
		}
		for _, n := range numbers {
			checkFirst(t, g, n)
		}
	}
}

// P11.2: of the sample, written out; the document's example.
func TestFirstKnown(t *testing.T) {
	g := sample()
	for _, c := range []struct {
		n, offset, time int // of which the first one is told: its place; -1: none
	}{
		{math.MinInt, 0, 0},
		{-1, 0, 0},
		{0, 0, 0},
		{5, 0, 0},
		{6, 0, 3},
		{9, 0, 3},
		{10, 0, 5},
		{11, 1, 5},
		{12, 2, 5},
		{15, 2, 5},
		{16, 3, 5},
		{17, 4, 5},
		{1000, 4, 5},
		{1001, 5, 5},
		{1<<40 - 1, 5, 5},
		{1 << 40, -1, 5},
		{1<<40 + 1, -1, -1},
		{math.MaxInt, -1, -1},
	} {
		r, e := Find(g, c.n)
		if c.offset < 0 && (e != api.ErrNone || r != (api.Rec{})) || c.offset >= 0 && (e != api.OK || r != g.Recs[c.offset]) {
			t.Errorf("Find(%d): %s, %v", c.n, brief(r), e)
		}
		r, e = Since(g, c.n)
		if c.time < 0 && (e != api.ErrNone || r != (api.Rec{})) || c.time >= 0 && (e != api.OK || r != g.Recs[c.time]) {
			t.Errorf("Since(%d): %s, %v", c.n, brief(r), e)
		}
	}
	for _, empty := range []api.Seg{{}, {Base: 3, Recs: []api.Rec{}}} {
		if _, e := Find(empty, 0); e != api.ErrNone {
			t.Errorf("Find in none: %v", e)
		}
		if _, e := Since(empty, 0); e != api.ErrNone {
			t.Errorf("Since in none: %v", e)
		}
	}
}

// P11.1 to P11.3: runs of records, most of which may follow each other.
func TestRuns(t *testing.T) {
	r := rand.New(rand.NewSource(11))
	for range 3000 {
		g := api.Seg{Base: r.Intn(20)}
		offset, time := g.Base+r.Intn(3), r.Intn(5)
		for range r.Intn(10) {
			x := api.Rec{Offset: offset, Time: time, QoS: r.Intn(3), Key: strings.Repeat("k", r.Intn(4)), Body: strings.Repeat("b", r.Intn(20))}
			switch r.Intn(20) {
			case 0:
				x.Offset -= r.Intn(6)
			case 1:
				x.Time -= r.Intn(4)
			case 2:
				x.Gone = true
			}
			checkAdd(t, g, x)
			g.Recs = append(g.Recs, x)
			offset, time = offset+1+r.Intn(3)*r.Intn(3), time+r.Intn(3)
		}
		if r.Intn(20) == 0 {
			g.Base += r.Intn(40) - 20
		}
		checkSeg(t, g)
		for n := -1; n < 50; n += 1 + r.Intn(4) {
			checkFirst(t, g, n)
		}
		s := laid(g.Recs...)
		checkParse(t, g.Base, s)
		if s != "" {
			b := []byte(s)
			b[r.Intn(len(b))] ^= byte(r.Intn(256))
			checkParse(t, r.Intn(30), string(b[:r.Intn(len(b)+1)]))
		}
	}
}

// R2: what is told is one's own, spare room too; a list with spare room that is handed in is not written behind.
func TestNothingShared(t *testing.T) {
	room := slices.Grow(sample().Recs[:5], 20)
	room = append(room, api.Rec{Key: "behind"})[:5]
	g := api.Seg{Base: 10, Recs: room}
	x, e := Add(g, api.Rec{Offset: 2000, Time: 9})
	y, f := Add(g, api.Rec{Offset: 3000, Time: 9})
	if e != api.OK || f != api.OK || len(x.Recs) != 6 || len(y.Recs) != 6 {
		t.Fatalf("Add: %v, %v", e, f)
	}
	if x.Recs[5].Offset != 2000 || y.Recs[5].Offset != 3000 || room[:6][5].Key != "behind" {
		t.Errorf("Add writes where it was given: %v, %v, %v", x.Recs[5], y.Recs[5], room[:6][5])
	}
	scribble(x)
	if y.Recs[5].Offset != 3000 || !same(g, api.Seg{Base: 10, Recs: sample().Recs[:5]}) {
		t.Errorf("what Add tells is shared: %s, %s", brief(y), brief(g))
	}
	s := laid(g.Recs...)
	one, _, _ := Parse(10, s)
	two, _, _ := Parse(10, s)
	scribble(one)
	if !same(two, g) {
		t.Errorf("what Parse tells is shared: %s", brief(two))
	}
	r, _ := Find(g, 11)
	r.Offset = -1
	if !same(g, api.Seg{Base: 10, Recs: sample().Recs[:5]}) {
		t.Errorf("what Find tells is shared: %s", brief(g))
	}
}

// P11.1 to P11.3, of any bytes, and of what stands in them.
func FuzzSeg(f *testing.F) {
	f.Add(10, laid(sample().Recs...), 300, 11, 6)
	f.Add(0, laid(many(0, 5).Recs...), 60, 3, 1)
	f.Add(-1, "\x00\x13", 0, -1, 1<<40)
	f.Fuzz(func(t *testing.T, base int, s string, at, offset, time int) {
		checkParse(t, base, s)
		i := min(max(at, 0), len(s))
		checkParse(t, base, s[:i]+s)
		l, _, _ := rec.Scan(s)
		g := api.Seg{Base: base, Recs: l[:min(len(l), 300)]}
		checkSeg(t, g)
		checkFirst(t, g, offset)
		checkFirst(t, g, time)
		r := api.Rec{Offset: offset, Time: time, Key: s[:min(i, 1100)]}
		checkAdd(t, g, r)
		for n := range min(len(l), 20) {
			checkAdd(t, api.Seg{Base: base, Recs: l[:n]}, l[n])
		}
		checkParse(t, base, s[:i]+laid(r)+s[i:])
	})
}
