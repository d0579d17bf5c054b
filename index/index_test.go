package index

import (
	"math"
	"math/rand"
	"slices"
	"strconv"
	"strings"
	"testing"

	"fairway/api"
	"fairway/rec"
	"fairway/seg"
)

// sample says a segment of ten records that may be: Offsets with gaps between, records of all sorts and sizes.
func sample() api.Seg {
	return api.Seg{Base: 5, Recs: []api.Rec{
		{Offset: 10, Time: 5, Key: "k", Body: "first"},                            // 31 bytes
		{Offset: 11, Time: 5, Body: "\x00\xffé", QoS: 1},                          // 29
		{Offset: 15, Time: 5},                                                     // 25
		{Offset: 16, Time: 9, Key: "k", QoS: 2, Gone: true},                       // 26
		{Offset: 1000, Time: 9, Key: "other", Body: strings.Repeat("b", 300)},     // 330
		{Offset: 1001, Time: 9},                                                   // 25
		{Offset: 1002, Time: 9},                                                   // 25
		{Offset: 1010, Time: 9, Key: strings.Repeat("k", 1024)},                   // 1049
		{Offset: 1 << 32, Time: 1 << 32, Body: strings.Repeat("\xff", 1024)},      // 1049
		{Offset: 1<<40 - 1, Time: 1 << 40, Key: "last", Body: "one", Gone: false}, // 32
	}}
}

// sampleMarks says the marks of the sample.
func sampleMarks() []api.Mark {
	return []api.Mark{{Offset: 10, At: 0}, {Offset: 1000, At: 111}, {Offset: 1 << 32, At: 1540}}
}

// many says a segment of n records, by Offsets of some steps from Base on.
func many(base, step, n int) api.Seg {
	g := api.Seg{Base: base}
	for i := range n {
		g.Recs = append(g.Recs, api.Rec{Offset: base + i*step, Time: i / 3, Key: strconv.Itoa(i % 7), Body: strings.Repeat("b", i%11)})
	}
	return g
}

// changed says the sample, changed.
func changed(change func(*api.Seg)) api.Seg {
	g := sample()
	change(&g)
	return g
}

// badSegs says segments that may not be, each for another reason, by names.
func badSegs() map[string]api.Seg {
	long := strings.Repeat("x", 1025)
	return map[string]api.Seg{
		"a Base below 0":            {Base: -1},
		"the least Base":            {Base: math.MinInt},
		"a Base above MaxOffset":    {Base: 1<<40 + 1},
		"a Base above an Offset":    changed(func(g *api.Seg) { g.Base = 11 }),
		"an Offset twice":           changed(func(g *api.Seg) { g.Recs[3].Offset = 15 }),
		"an Offset that falls":      changed(func(g *api.Seg) { g.Recs[8].Offset = 1009 }),
		"a Time that falls":         changed(func(g *api.Seg) { g.Recs[4].Time = 8 }),
		"an Offset of MaxOffset":    changed(func(g *api.Seg) { g.Recs[9].Offset = 1 << 40 }),
		"an Offset below 0":         changed(func(g *api.Seg) { g.Recs[0].Offset = -1 }),
		"a Time above MaxTime":      changed(func(g *api.Seg) { g.Recs[9].Time = 1<<40 + 1 }),
		"a QoS of 3":                changed(func(g *api.Seg) { g.Recs[1].QoS = 3 }),
		"a Key too long":            changed(func(g *api.Seg) { g.Recs[7].Key = long }),
		"a Body too long":           changed(func(g *api.Seg) { g.Recs[8].Body = long }),
		"a Gone one with a Body":    changed(func(g *api.Seg) { g.Recs[3].Body = "b" }),
		"only the last one is bad":  changed(func(g *api.Seg) { g.Recs[9].QoS = -1 }),
		"the first one is bad":      changed(func(g *api.Seg) { g.Recs[0].QoS = -1 }),
		"one record more than most": many(0, 1, 201),
	}
}

// P12.1: the document's example, and each number of records about it.
func TestHowManyMarks(t *testing.T) {
	for n := range 201 {
		l, e := Marks(many(7, 3, n))
		if len(l) != (n+3)/4 || e != api.OK {
			t.Errorf("%d records: %d marks, %v", n, len(l), e)
		}
		for i, m := range l {
			if m.Offset != 7+3*4*i {
				t.Errorf("%d records, mark %d: %v", n, i, m)
			}
		}
		checkMarks(t, many(7, 3, n))
	}
	if l, e := Marks(many(0, 1, 9)); len(l) != 3 || e != api.OK {
		t.Errorf("nine records: %v, %v", l, e)
	}
}

// P12.1: marks written out.
func TestKnown(t *testing.T) {
	same := api.Seg{}
	for i := range 13 {
		same.Recs = append(same.Recs, api.Rec{Offset: i})
	}
	for _, c := range []struct {
		g    api.Seg
		want []api.Mark
	}{
		{api.Seg{}, nil},
		{api.Seg{Base: 1 << 40, Recs: []api.Rec{}}, nil},
		{api.Seg{Recs: []api.Rec{{Offset: 3}}}, []api.Mark{{Offset: 3}}},
		{api.Seg{Base: 3, Recs: []api.Rec{{Offset: 1<<40 - 1, Body: "b"}}}, []api.Mark{{Offset: 1<<40 - 1}}},
		{same, []api.Mark{{Offset: 0, At: 0}, {Offset: 4, At: 100}, {Offset: 8, At: 200}, {Offset: 12, At: 300}}},
		{sample(), sampleMarks()},
	} {
		if l, e := Marks(c.g); !slices.Equal(l, c.want) || e != api.OK {
			t.Errorf("%s: %v, %v, want %v", brief(c.g), l, e, c.want)
		}
		if isOwn, e := Check(c.g, c.want); !isOwn || e != api.OK {
			t.Errorf("%s: %v: %v, %v", brief(c.g), c.want, isOwn, e)
		}
		checkMarks(t, c.g)
	}
}

// P12.1: the greatest segment there is.
func TestGreatest(t *testing.T) {
	long := strings.Repeat("0123456789abcdef", 64)
	g := api.Seg{Base: 1<<40 - 200}
	for i := range 200 {
		g.Recs = append(g.Recs, api.Rec{Offset: g.Base + i, Time: 1 << 40, Key: long, Body: long, QoS: 2})
	}
	l, e := Marks(g)
	if len(l) != 50 || l[49] != (api.Mark{Offset: 1<<40 - 4, At: 196 * (25 + 2048)}) || e != api.OK {
		t.Errorf("%v, %v", l, e)
	}
	checkMarks(t, g)
	for _, n := range []int{0, 1<<40 - 201, 1<<40 - 200, 1<<40 - 199, 1<<40 - 2, 1<<40 - 1, 1 << 40} {
		checkLook(t, g, l, n)
	}
}

// P12.1 and P12.2: of a segment that may not be, every call that takes one tells ErrForm, whatever the marks, and nothing beside it.
func TestBadSegments(t *testing.T) {
	for about, g := range badSegs() {
		if l, e := Marks(g); len(l) != 0 || e != api.ErrForm {
			t.Errorf("%s: Marks: %v, %v", about, l, e)
		}
		checkMarks(t, g)
		asIfGood, _ := Marks(sample())
		for _, l := range [][]api.Mark{nil, asIfGood, {{Offset: 5}}, {{Offset: 2}, {Offset: 1}}} {
			if isOwn, e := Check(g, l); isOwn || e != api.ErrForm {
				t.Errorf("%s: Check of %v: %v, %v", about, l, isOwn, e)
			}
			for _, n := range []int{math.MinInt, -1, 0, 10, 16, math.MaxInt} {
				if r, passed, e := Look(g, l, n); r != (api.Rec{}) || passed != 0 || e != api.ErrForm {
					t.Errorf("%s: Look by %v for %d: %v, %d, %v", about, l, n, r, passed, e)
				}
				checkLook(t, g, l, n)
			}
		}
	}
}

// otherMarks says marks that are not the sample's: some of them in order, some not.
func otherMarks() [][]api.Mark {
	l := [][]api.Mark{nil, {}, {{}}, {{Offset: 10}}, sampleMarks()[1:], append(sampleMarks(), api.Mark{Offset: 1<<40 - 1, At: 2589}), append(sampleMarks(), sampleMarks()[2])}
	for i := range sampleMarks() {
		for _, d := range []int{math.MinInt, -1000, -1, 1, 2, 1000, math.MaxInt} {
			offset, at := sampleMarks(), sampleMarks()
			offset[i].Offset += d
			at[i].At += d
			l = append(l, offset, at)
		}
		l = append(l, slices.Delete(sampleMarks(), i, i+1), slices.Insert(sampleMarks(), i, sampleMarks()[i]), slices.Insert(sampleMarks(), i, api.Mark{}))
		for k := range i {
			swapped := sampleMarks()
			swapped[i], swapped[k] = swapped[k], swapped[i]
			l = append(l, swapped)
		}
	}
	for every := range 10 {
		if every != 4 {
			l = append(l, marksEvery(max(every, 1)))
		}
	}
	return l
}

// marksEvery says marks of the sample that stand another number of records from each other.
func marksEvery(every int) []api.Mark {
	var l []api.Mark
	for n := 0; n < 10; n += every {
		k, _ := seg.Size(api.Seg{Recs: sample().Recs[:n]})
		l = append(l, api.Mark{Offset: sample().Recs[n].Offset, At: k})
	}
	return l
}

// P12.1 and P12.2: marks that are not the segment's: false, and ErrForm where one is looked for.
func TestOtherMarks(t *testing.T) {
	if !slices.Equal(marksEvery(4), sampleMarks()) {
		t.Fatalf("%v", marksEvery(4))
	}
	for _, l := range otherMarks() {
		if isOwn, e := Check(sample(), l); isOwn || e != api.OK {
			t.Errorf("Check by %v: %v, %v", l, isOwn, e)
		}
		for _, n := range []int{math.MinInt, 0, 10, 12, 1000, 1<<40 - 1, 1 << 40, math.MaxInt} {
			if r, passed, e := Look(sample(), l, n); r != (api.Rec{}) || passed != 0 || e != api.ErrForm {
				t.Errorf("Look by %v for %d: %v, %d, %v", l, n, r, passed, e)
			}
			checkLook(t, sample(), l, n)
			checkLook(t, api.Seg{Base: 5}, l, n)
		}
	}
	for _, l := range [][]api.Mark{{{}}, {{Offset: 5}}, {{Offset: -1, At: -1}}} {
		if isOwn, e := Check(api.Seg{Base: 5}, l); isOwn || e != api.OK {
			t.Errorf("Check of no records by %v: %v, %v", l, isOwn, e)
		}
		if _, _, e := Look(api.Seg{Base: 5}, l, 5); e != api.ErrForm {
			t.Errorf("Look in no records by %v: %v", l, e)
		}
	}
	if isOwn, e := Check(api.Seg{Base: 5, Recs: []api.Rec{}}, []api.Mark{}); !isOwn || e != api.OK {
		t.Errorf("Check of no records by no marks: %v, %v", isOwn, e)
	}
}

// P12.1: marks stay as they are where Base, Times or what is not marked changes, without a change of sizes; else not.
func TestOtherSegments(t *testing.T) {
	for _, c := range []struct {
		about  string
		change func(*api.Seg)
		isOwn  bool
	}{
		{"another Base", func(g *api.Seg) { g.Base = 10 }, true},
		{"another Time", func(g *api.Seg) { g.Recs[1].Time = 6; g.Recs[2].Time = 6 }, true},
		{"another Offset of one without a mark", func(g *api.Seg) { g.Recs[1].Offset = 12 }, true},
		{"another Offset of one with a mark", func(g *api.Seg) { g.Recs[4].Offset = 999 }, false},
		{"another Offset of the first one", func(g *api.Seg) { g.Recs[0].Offset = 9 }, false},
		{"another Body, as long", func(g *api.Seg) { g.Recs[0].Body = "FIRST" }, true},
		{"a byte from Key to Body", func(g *api.Seg) { g.Recs[0].Key, g.Recs[0].Body = "", "kfirst" }, true},
		{"a Body one byte longer", func(g *api.Seg) { g.Recs[0].Body = "first!" }, false},
		{"a byte from one record to the next", func(g *api.Seg) { g.Recs[0].Body, g.Recs[1].Key = "firs", "t" }, true},
		{"a byte from one record to beyond a mark", func(g *api.Seg) { g.Recs[3].Key, g.Recs[4].Key = "", "others" }, false},
		{"the last one longer", func(g *api.Seg) { g.Recs[9].Body = "another" }, true},
		{"one with a mark longer, and none behind", func(g *api.Seg) { g.Recs[8].Key = "k" }, true},
		{"one fewer", func(g *api.Seg) { g.Recs = g.Recs[:9] }, true},
		{"two fewer", func(g *api.Seg) { g.Recs = g.Recs[:8] }, false},
		{"without its first one", func(g *api.Seg) { g.Recs = g.Recs[1:] }, false},
	} {
		if isOwn, e := Check(changed(c.change), sampleMarks()); isOwn != c.isOwn || e != api.OK {
			t.Errorf("%s: %v, %v", c.about, isOwn, e)
		}
		checkLook(t, changed(c.change), sampleMarks(), 999)
	}
}

// P12.2: the mark of an offset, at and about each mark.
func TestFrom(t *testing.T) {
	for _, c := range []struct{ offset, want int }{
		{math.MinInt, 0},
		{-1, 0},
		{0, 0},
		{9, 0},
		{10, 0},
		{11, 0},
		{999, 0},
		{1000, 1},
		{1001, 1},
		{1<<32 - 1, 1},
		{1 << 32, 2},
		{1<<40 - 1, 2},
		{1 << 40, 2},
		{math.MaxInt, 2},
	} {
		if m, e := From(sampleMarks(), c.offset); m != sampleMarks()[c.want] || e != api.OK {
			t.Errorf("%d: %v, %v", c.offset, m, e)
		}
		checkFrom(t, sampleMarks(), c.offset)
		for _, none := range [][]api.Mark{nil, {}} {
			if m, e := From(none, c.offset); m != (api.Mark{}) || e != api.OK {
				t.Errorf("no marks, %d: %v, %v", c.offset, m, e)
			}
		}
		one := []api.Mark{{Offset: 12, At: 77}}
		if m, e := From(one, c.offset); m != one[0] || e != api.OK {
			t.Errorf("one mark, %d: %v, %v", c.offset, m, e)
		}
	}
}

// P12.2: any marks will do, of whatever segment or of none, if they are in order.
func TestFromAnyMarks(t *testing.T) {
	for _, c := range []struct {
		l  []api.Mark
		ok bool
	}{
		{[]api.Mark{{Offset: -5, At: -9}}, true},
		{[]api.Mark{{Offset: math.MinInt, At: math.MinInt}, {Offset: math.MaxInt, At: math.MaxInt}}, true},
		{[]api.Mark{{Offset: math.MaxInt, At: 0}, {Offset: math.MinInt, At: 0}}, false},
		{[]api.Mark{{Offset: 0, At: math.MaxInt}, {Offset: 1, At: math.MinInt}}, false},
		{[]api.Mark{{Offset: 1, At: 3}, {Offset: 2, At: 3}, {Offset: 3, At: 3}}, true},
		{[]api.Mark{{Offset: 1, At: 3}, {Offset: 2, At: 2}}, false},
		{[]api.Mark{{Offset: 1, At: 3}, {Offset: 1, At: 3}}, false},
		{[]api.Mark{{Offset: 1, At: 3}, {Offset: 1, At: 4}}, false},
		{[]api.Mark{{Offset: 2, At: 3}, {Offset: 1, At: 4}}, false},
		{[]api.Mark{{Offset: 1, At: 0}, {Offset: 2, At: 5}, {Offset: 3, At: 4}}, false},
		{[]api.Mark{{Offset: 1, At: 0}, {Offset: 3, At: 5}, {Offset: 2, At: 6}}, false},
		{[]api.Mark{{Offset: 1, At: 1}, {Offset: 2, At: 0}, {Offset: 3, At: 5}}, false},
		{[]api.Mark{{Offset: 1<<40 + 1, At: 1 << 50}}, true},
	} {
		for _, n := range []int{math.MinInt, -6, -5, -1, 0, 1, 2, 3, 4, 1 << 50, math.MaxInt} {
			m, e := From(c.l, n)
			if c.ok != (e == api.OK) || !c.ok && (e != api.ErrForm || m != (api.Mark{})) {
				t.Errorf("From(%v, %d): %v, %v", c.l, n, m, e)
			}
			checkFrom(t, c.l, n)
		}
	}
	for _, l := range otherMarks() {
		for n := -2; n < 1100; n += 3 {
			checkFrom(t, l, n)
		}
	}
}

// P12.2: marks of any number, out of order at one place alone.
func TestFromOrder(t *testing.T) {
	for n := range 40 {
		var l []api.Mark
		for i := range n {
			l = append(l, api.Mark{Offset: 10 + 2*i, At: 7 * (i / 2)})
		}
		for offset := range 100 {
			checkFrom(t, l, offset)
		}
		for i := range l {
			for _, d := range []int{-2, -1, 1, 2} {
				bad := slices.Clone(l)
				bad[i].Offset += d
				may := (d > -2 || i == 0) && (d < 2 || i == n-1)
				if _, e := From(bad, 20); may != (e == api.OK) || !may && e != api.ErrForm {
					t.Errorf("Offset %d of %d by %d: %v", i, n, d, e)
				}
				checkFrom(t, bad, 20)
				bad = slices.Clone(l)
				bad[i].At += 8 * d
				checkFrom(t, bad, 20)
			}
		}
	}
}

// P12.2: a record looked for, at and about each Offset, and how many were passed.
func TestLook(t *testing.T) {
	for _, c := range []struct{ offset, want, passed int }{
		{math.MinInt, 0, 0},
		{-1, 0, 0},
		{0, 0, 0},
		{5, 0, 0},
		{9, 0, 0},
		{10, 0, 0},
		{11, 1, 1},
		{12, 2, 2},
		{15, 2, 2},
		{16, 3, 3},
		{17, 4, 4},
		{999, 4, 4},
		{1000, 4, 0},
		{1001, 5, 1},
		{1002, 6, 2},
		{1003, 7, 3},
		{1010, 7, 3},
		{1011, 8, 4},
		{1<<32 - 1, 8, 4},
		{1 << 32, 8, 0},
		{1<<32 + 1, 9, 1},
		{1<<40 - 1, 9, 1},
	} {
		r, passed, e := Look(sample(), sampleMarks(), c.offset)
		if r != sample().Recs[c.want] || passed != c.passed || e != api.OK {
			t.Errorf("%d: %s, %d, %v, want %d, %d", c.offset, brief(r), passed, e, c.want, c.passed)
		}
		checkLook(t, sample(), sampleMarks(), c.offset)
	}
	for _, n := range []int{1 << 40, 1<<40 + 1, math.MaxInt} {
		if r, passed, e := Look(sample(), sampleMarks(), n); r != (api.Rec{}) || passed != 0 || e != api.ErrNone {
			t.Errorf("%d: %s, %d, %v", n, brief(r), passed, e)
		}
	}
	for _, g := range []api.Seg{{}, {Base: 3, Recs: []api.Rec{}}, {Base: 1 << 40}} {
		for _, n := range []int{math.MinInt, -1, 0, 3, 4, math.MaxInt} {
			for _, l := range [][]api.Mark{nil, {}} {
				if r, passed, e := Look(g, l, n); r != (api.Rec{}) || passed != 0 || e != api.ErrNone {
					t.Errorf("of none, %d: %s, %d, %v", n, brief(r), passed, e)
				}
			}
		}
	}
}

// P12.2 and P12.3: segments of each number of records, looked through by each offset; never more than Every are passed, and as many are.
func TestPassed(t *testing.T) {
	for n := range 45 {
		for _, step := range []int{1, 2, 5} {
			g := many(3, step, n)
			l, _ := Marks(g)
			times := map[int]int{}
			for offset := -1; offset < 3+step*n+3; offset++ {
				_, passed, e := Look(g, l, offset)
				if e == api.OK {
					times[passed]++
				}
				if passed > 4 || (e == api.OK) != (n > 0 && offset <= 3+step*(n-1)) {
					t.Fatalf("%d records by %d, %d: %d passed, %v", n, step, offset, passed, e)
				}
				checkLook(t, g, l, offset)
			}
			if full := n > 4 && step > 1; full != (times[4] > 0) {
				t.Errorf("%d records by %d: %v", n, step, times)
			}
		}
	}
	for _, offset := range []int{0, 1, 4, 5, 199, 396, 397, 398, 399, 400} {
		g := many(0, 2, 200)
		l, _ := Marks(g)
		checkLook(t, g, l, offset)
	}
}

// P12.1 to P12.3: segments, marks and offsets of many kinds, some of them not as they should be.
func TestRuns(t *testing.T) {
	r := rand.New(rand.NewSource(12))
	for range 1000 {
		g := api.Seg{Base: r.Intn(20)}
		offset, time := g.Base+r.Intn(3), r.Intn(5)
		for range r.Intn(30) {
			x := api.Rec{Offset: offset, Time: time, QoS: r.Intn(3), Key: strings.Repeat("k", r.Intn(4)), Body: strings.Repeat("b", r.Intn(20))}
			if r.Intn(200) == 0 {
				x.Offset -= r.Intn(6)
			}
			g.Recs = append(g.Recs, x)
			offset, time = offset+1+r.Intn(3)*r.Intn(3), time+r.Intn(3)
		}
		checkMarks(t, g)
		l, _ := Marks(g)
		if len(l) > 0 && r.Intn(3) == 0 {
			m := &l[r.Intn(len(l))]
			m.Offset += r.Intn(9) - 4
			m.At += r.Intn(9) - 4
		}
		if r.Intn(20) == 0 {
			l = append(l, api.Mark{Offset: offset + r.Intn(9) - 4, At: 30 * len(g.Recs)})
		}
		for n := -1; n < offset+5; n += 1 + r.Intn(4) {
			checkLook(t, g, l, n)
		}
	}
}

// R2: what is told is one's own, spare room too.
func TestNothingShared(t *testing.T) {
	g := sample()
	l, _ := Marks(g)
	scribble(l)
	if again, e := Marks(g); !slices.Equal(again, sampleMarks()) || e != api.OK {
		t.Errorf("Marks tells the same memory twice: %v", again)
	}
	room := append(sampleMarks(), api.Mark{Offset: 1, At: 1})
	m, _ := From(room[:3], 1000)
	m.At = -1
	r, _, _ := Look(g, room[:3], 1000)
	r.Offset = -1
	if !slices.Equal(room[:3], sampleMarks()) || room[3] != (api.Mark{Offset: 1, At: 1}) || !slices.Equal(g.Recs, sample().Recs) {
		t.Errorf("what was handed in is changed: %v, %s", room, brief(g))
	}
}

// P12.1 to P12.3, of the records that stand in any bytes, and of marks of any numbers.
func FuzzIndex(f *testing.F) {
	text, _ := seg.Text(sample())
	f.Add(5, text, 12, 1, 1, 0)
	f.Add(0, text, 1001, 0, 0, 0)
	f.Add(-1, "\x00\x13", -1, 2, -3, 1<<40)
	f.Fuzz(func(t *testing.T, base int, s string, offset, which, d, at int) {
		all, _, _ := rec.Scan(s)
		g := api.Seg{Base: base, Recs: all[:min(len(all), 300)]}
		checkMarks(t, g)
		checkLook(t, g, nil, offset)
		l, e := Marks(g)
		if e == api.OK {
			checkLook(t, g, l, offset)
		}
		checkLook(t, g, append(l, api.Mark{Offset: d, At: at}), offset)
		if len(l) > 0 {
			m := &l[min(max(which, 0), len(l)-1)]
			m.Offset += d
			m.At += at
			checkLook(t, g, l, offset)
		}
	})
}
