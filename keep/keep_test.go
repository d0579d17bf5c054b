package keep

import (
	"math"
	"math/rand"
	"slices"
	"strconv"
	"strings"
	"testing"
	"unsafe"

	"fairway/api"
	"fairway/rec"
)

// sample says four closed segments and an open one, in a row: of 60, 51, 0, 330 and 25 bytes, the last Times 5, 9, none, 9 and 20.
func sample() []api.Seg {
	return []api.Seg{
		{Base: 0, Recs: []api.Rec{
			{Offset: 0, Time: 5, Key: "k", Body: "first"},   // 31 bytes
			{Offset: 1, Time: 5, Body: "\x00\xffé", QoS: 1}, // 29
		}},
		{Base: 2, Recs: []api.Rec{
			{Offset: 5, Time: 8}, // 25
			{Offset: 7, Time: 9, Key: "k", QoS: 2, Gone: true}, // 26
		}},
		{Base: 8},
		{Base: 8, Recs: []api.Rec{{Offset: 8, Time: 9, Key: "other", Body: strings.Repeat("b", 300)}}},
		{Base: 100, Recs: []api.Rec{{Offset: 100, Time: 20}}},
	}
}

// changed says the sample, changed.
func changed(change func([]api.Seg)) []api.Seg {
	l := sample()
	change(l)
	return l
}

// free says rules without bounds.
func free() api.Rules {
	return api.Rules{SegBytes: 1, Bytes: -1, Age: -1}
}

// bound says rules of bounds.
func bound(bytes, age int) api.Rules {
	return api.Rules{SegBytes: 100, Bytes: bytes, Age: age}
}

// empties says n segments without records, all of one Base.
func empties(base, n int) []api.Seg {
	var l []api.Seg
	for range n {
		l = append(l, api.Seg{Base: base})
	}
	return l
}

// row says segments in a row of so many records each, all of 25 bytes, their Offsets and Times one by one.
func row(counts ...int) []api.Seg {
	var l []api.Seg
	n := 0
	for _, count := range counts {
		g := api.Seg{Base: n}
		for range count {
			g.Recs = append(g.Recs, api.Rec{Offset: n, Time: n})
			n++
		}
		l = append(l, g)
	}
	return l
}

// badRules says rules that may not be, each for another reason, by names.
func badRules() map[string]api.Rules {
	return map[string]api.Rules{
		"none at all":      {},
		"SegBytes of 0":    {SegBytes: 0, Bytes: -1, Age: -1},
		"SegBytes below 0": {SegBytes: -1, Bytes: -1, Age: -1},
		"SegBytes above":   {SegBytes: 32769, Bytes: -1, Age: -1},
		"Bytes below -1":   {SegBytes: 1, Bytes: -2, Age: -1},
		"Bytes above":      {SegBytes: 1, Bytes: 1<<30 + 1, Age: -1},
		"Age below -1":     {SegBytes: 1, Bytes: -1, Age: -2},
		"Age above":        {SegBytes: 1, Bytes: -1, Age: 1<<30 + 1},
		"Graves below 0":   {SegBytes: 1, Bytes: -1, Age: -1, Graves: -1},
		"Graves above":     {SegBytes: 1, Bytes: -1, Age: -1, Graves: 1<<30 + 1},
	}
}

// badSegs says segments that may not be, for the Offsets 8 to 99 and the Time 9 of the sample.
func badSegs() map[string]api.Seg {
	long := strings.Repeat("x", 1025)
	return map[string]api.Seg{
		"a Base below 0":           {Base: -1},
		"a Base above MaxOffset":   {Base: 1<<40 + 1},
		"an Offset below Base":     {Base: 9, Recs: []api.Rec{{Offset: 8, Time: 9}}},
		"an Offset twice":          {Base: 8, Recs: []api.Rec{{Offset: 8, Time: 9}, {Offset: 8, Time: 9}}},
		"an Offset that falls":     {Base: 8, Recs: []api.Rec{{Offset: 9, Time: 9}, {Offset: 8, Time: 9}}},
		"a Time that falls":        {Base: 8, Recs: []api.Rec{{Offset: 8, Time: 10}, {Offset: 9, Time: 9}}},
		"a QoS of 3":               {Base: 8, Recs: []api.Rec{{Offset: 8, Time: 9, QoS: 3}}},
		"a Gone one with a Body":   {Base: 8, Recs: []api.Rec{{Offset: 8, Time: 9, Body: "b", Gone: true}}},
		"a Key too long":           {Base: 8, Recs: []api.Rec{{Offset: 8, Time: 9, Key: long}}},
		"a Body too long":          {Base: 8, Recs: []api.Rec{{Offset: 8, Time: 9}, {Offset: 9, Time: 9, Body: long}}},
		"an Offset of MaxOffset":   {Base: 8, Recs: []api.Rec{{Offset: 1 << 40, Time: 9}}},
		"a Time above MaxTime":     {Base: 8, Recs: []api.Rec{{Offset: 8, Time: 1<<40 + 1}}},
		"more records than may be": row(201)[0],
	}
}

// edges says numbers at and beyond all bounds that numbers have.
func edges() []int {
	return []int{math.MinInt, -1 << 40, -1 << 30, -3, -2, -1, 0, 1, 2, 3, 255, 32767, 32768, 32769, 65535, 65536,
		1<<30 - 1, 1 << 30, 1<<30 + 1, 1<<31 - 1, 1 << 31, 1<<32 - 1, 1 << 32, 1<<32 + 1, 1<<40 - 1, 1 << 40, 1<<40 + 1, math.MaxInt}
}

// P13.1: each number of rules, at and beyond its bounds.
func TestRules(t *testing.T) {
	for _, n := range edges() {
		for _, c := range []struct {
			about string
			r     api.Rules
			may   bool
		}{
			{"SegBytes", api.Rules{SegBytes: n, Bytes: -1, Age: -1}, n >= 1 && n <= 1<<15},
			{"Bytes", api.Rules{SegBytes: 1, Bytes: n}, n >= -1 && n <= 1<<30},
			{"Age", api.Rules{SegBytes: 1, Age: n}, n >= -1 && n <= 1<<30},
			{"Graves", api.Rules{SegBytes: 1, Graves: n}, n >= 0 && n <= 1<<30},
		} {
			for _, compact := range []bool{false, true} {
				c.r.Compact = compact
				if e := Rules(c.r); e != errnoOf(c.may) {
					t.Errorf("%s of %d, %v: %v", c.about, n, compact, e)
				}
				check(t, sample(), c.r, 7)
			}
		}
	}
	for about, r := range badRules() {
		if e := Rules(r); e != api.ErrForm {
			t.Errorf("%s: %v", about, e)
		}
		checkForm(t, about, sample(), r, 7)
		checkForm(t, about+", of one segment", sample()[4:], r, 7)
		checkForm(t, about+", of none", nil, r, 7)
	}
	most := api.Rules{SegBytes: 1 << 15, Bytes: 1 << 30, Age: 1 << 30, Compact: true, Graves: 1 << 30}
	if e := Rules(most); e != api.OK {
		t.Errorf("all at their most: %v", e)
	}
}

// P13.1: a time from 0 to MaxTime, also where nothing can go.
func TestNow(t *testing.T) {
	for _, now := range edges() {
		for _, l := range [][]api.Seg{sample(), sample()[4:], empties(0, 3)} {
			for _, r := range []api.Rules{free(), bound(0, 0), bound(1<<30, 1<<30)} {
				if _, e := Old(l, r, now); e != errnoOf(now >= 0 && now <= 1<<40) {
					t.Errorf("now %d: %v", now, e)
				}
				check(t, l, r, now)
			}
		}
		checkForm(t, "none, now "+strconv.Itoa(now), nil, free(), now)
	}
}

// P13.1: segments that may not be, at each place.
func TestBadSegs(t *testing.T) {
	for about, g := range badSegs() {
		for i := range len(sample()) + 1 {
			l := slices.Insert(sample(), i, g)
			if e := Row(l); e != api.ErrForm {
				t.Errorf("%s at %d: %v", about, i, e)
			}
			checkForm(t, about, l, bound(0, 0), 30)
			if i < len(sample()) {
				checkForm(t, about, changed(func(l []api.Seg) { l[i] = g }), free(), 30)
			}
		}
		checkForm(t, about+", alone", []api.Seg{g}, free(), 0)
	}
}

// P13.1: how many segments there may be.
func TestHowManySegs(t *testing.T) {
	for _, none := range [][]api.Seg{nil, {}, sample()[2:2]} {
		if e := Row(none); e != api.ErrForm {
			t.Errorf("no segments: %v", e)
		}
		checkForm(t, "no segments", none, free(), 0)
	}
	for _, base := range []int{0, 1, 7, 1<<40 - 1, 1 << 40} {
		for _, n := range []int{1, 2, 3, 199, 200, 201, 202, 203, 300} {
			if e := Row(empties(base, n)); e != errnoOf(n <= 201) {
				t.Errorf("%d segments of Base %d: %v", n, base, e)
			}
			check(t, empties(base, n), bound(0, 0), 0)
			if n > 201 {
				checkForm(t, strconv.Itoa(n)+" segments", empties(base, n), bound(0, 0), 0)
			} else if k, e := Old(empties(base, n), bound(-1, 0), 0); k != n-1 || e != api.OK {
				t.Errorf("%d segments, none with records: %d go, %v", n, k, e)
			}
		}
	}
}

// P13.1: how many records there may be, however they lie in segments.
func TestHowManyRecs(t *testing.T) {
	ones := make([]int, 199)
	for i := range ones {
		ones[i] = 1
	}
	for _, c := range []struct {
		counts []int
		may    bool
	}{
		{[]int{0}, true},
		{[]int{1}, true},
		{[]int{200}, true},
		{[]int{201}, false},
		{[]int{200, 0}, true},
		{[]int{0, 200}, true},
		{[]int{200, 1}, false},
		{[]int{1, 200}, false},
		{[]int{1, 199}, true},
		{[]int{100, 100}, true},
		{[]int{100, 101}, false},
		{[]int{100, 0, 100, 0}, true},
		{[]int{100, 0, 100, 1}, false},
		{[]int{200, 200, 200}, false},
		{[]int{150, 150, 150}, false},
		{ones, true},
		{append(slices.Clone(ones), 1), true},
		{append(slices.Clone(ones), 1, 0), true},
		{append(slices.Clone(ones), 0, 1), true},
		{append(slices.Clone(ones), 1, 1), false},
		{append(slices.Clone(ones), 1, 0, 0), false},
		{append(slices.Clone(ones), 2), false},
		{append(slices.Clone(ones), 0, 2), false},
	} {
		l := row(c.counts...)
		if e := Row(l); e != errnoOf(c.may) {
			t.Errorf("%v records: %v", c.counts, e)
		}
		if !c.may {
			checkForm(t, strconv.Itoa(len(c.counts))+" segments", l, bound(0, 0), 200)
		}
		for _, bytes := range []int{-1, 0, 25, 2500, 4999, 5000} {
			for _, age := range []int{-1, 0, 99, 199} {
				check(t, l, bound(bytes, age), 200)
			}
		}
	}
}

// P13.1: a Base above all Offsets ahead of it, and not below the Bases ahead.
func TestBases(t *testing.T) {
	for i := range len(sample()) {
		for base := -2; base <= 110; base++ {
			l := changed(func(l []api.Seg) { l[i].Base = base })
			least := []int{0, 2, 8, 8, 9}[i]
			most := []int{0, 5, 8, 8, 100}[i]
			may := base >= least && base <= most
			if e := Row(l); e != errnoOf(may) {
				t.Errorf("segment %d, Base %d: %v", i, base, e)
			}
			check(t, l, bound(330, 4), 10)
		}
	}
	for _, c := range []struct {
		about string
		l     []api.Seg
		may   bool
	}{
		{"a Base twice, without records", []api.Seg{{Base: 5}, {Base: 5}}, true},
		{"a Base twice, the second one with records", []api.Seg{{Base: 5}, {Base: 5, Recs: []api.Rec{{Offset: 5}}}}, true},
		{"a Base twice, the first one with records", []api.Seg{{Base: 5, Recs: []api.Rec{{Offset: 5}}}, {Base: 5}}, false},
		{"a Base that falls, without records", []api.Seg{{Base: 5}, {Base: 4}}, false},
		{"a Base that falls to 0", []api.Seg{{Base: 1}, {Base: 0}}, false},
		{"a Base below one that is not just ahead", []api.Seg{{Base: 5}, {Base: 6}, {Base: 5}}, false},
		{"a Base just above an Offset", []api.Seg{{Base: 5, Recs: []api.Rec{{Offset: 7}}}, {Base: 8}}, true},
		{"a Base that is an Offset", []api.Seg{{Base: 5, Recs: []api.Rec{{Offset: 7}}}, {Base: 7}}, false},
		{"a Base between two Offsets", []api.Seg{{Base: 5, Recs: []api.Rec{{Offset: 5}, {Offset: 9}}}, {Base: 7}}, false},
		{"an Offset twice", []api.Seg{{Base: 5, Recs: []api.Rec{{Offset: 7}}}, {Base: 7, Recs: []api.Rec{{Offset: 7}}}}, false},
		{"a Base that is an Offset two ahead", []api.Seg{{Base: 5, Recs: []api.Rec{{Offset: 7}}}, {Base: 8}, {Base: 7}}, false},
		{"gaps", []api.Seg{{Base: 5, Recs: []api.Rec{{Offset: 7}}}, {Base: 1000}, {Base: 1<<40 - 1, Recs: []api.Rec{{Offset: 1<<40 - 1}}}, {Base: 1 << 40}, {Base: 1 << 40}}, true},
		{"the last Offset, and no Base above it", []api.Seg{{Base: 1<<40 - 1, Recs: []api.Rec{{Offset: 1<<40 - 1}}}, {Base: 1<<40 - 1}}, false},
	} {
		if e := Row(c.l); e != errnoOf(c.may) {
			t.Errorf("%s: %v", c.about, e)
		}
		check(t, c.l, bound(0, 0), 1)
	}
}

// P13.1: Times that do not fall over all, also behind segments without records.
func TestTimes(t *testing.T) {
	for i, g := range sample() {
		for k := range g.Recs {
			for time := -1; time < 25; time++ {
				l := changed(func(l []api.Seg) { l[i].Recs[k].Time = time })
				least := map[[2]int]int{{0, 0}: 0, {0, 1}: 5, {1, 0}: 5, {1, 1}: 8, {3, 0}: 9, {4, 0}: 9}[[2]int{i, k}]
				most := map[[2]int]int{{0, 0}: 5, {0, 1}: 8, {1, 0}: 9, {1, 1}: 9, {3, 0}: 20, {4, 0}: 1 << 40}[[2]int{i, k}]
				if e := Row(l); e != errnoOf(time >= least && time <= most) {
					t.Errorf("segment %d, record %d, Time %d: %v", i, k, time, e)
				}
				check(t, l, bound(-1, 5), 12)
			}
		}
	}
	for i := range len(sample()) {
		for k := range len(sample()) {
			check(t, changed(func(l []api.Seg) { l[i], l[k] = l[k], l[i] }), free(), 0)
			check(t, slices.Delete(sample(), i, max(i, k)), free(), 0)
			check(t, append(sample(), sample()[min(i, k):]...), free(), 0)
		}
	}
}

// P13.1: by Bytes alone, each number of them.
func TestBytes(t *testing.T) {
	for bytes := -1; bytes < 500; bytes++ {
		want := 0
		switch {
		case bytes == -1 || bytes >= 441:
		case bytes >= 381:
			want = 1
		case bytes >= 330:
			want = 2 // the one without records stays with the one behind it
		default:
			want = 4
		}
		for _, now := range []int{0, 5, 30, 1 << 40} {
			if n, e := Old(sample(), bound(bytes, -1), now); n != want || e != api.OK {
				t.Errorf("Bytes %d, now %d: %d, %v, want %d", bytes, now, n, e, want)
			}
		}
		check(t, sample(), bound(bytes, -1), 10)
		for i := range sample() {
			check(t, sample()[i:], bound(bytes, -1), 10)
			check(t, sample()[:i+1], bound(bytes, -1), 10)
		}
	}
}

// P13.1: by Age alone, about each last Time.
func TestAge(t *testing.T) {
	for _, age := range []int{0, 1, 2, 10, 1000, 1<<30 - 1, 1 << 30} {
		for d := range 30 {
			now := age + d
			want := 0
			switch {
			case d <= 5: // as old as may be
			case d <= 9:
				want = 1
			default:
				want = 4
			}
			if n, e := Old(sample(), bound(-1, age), now); n != want || e != api.OK {
				t.Errorf("Age %d, now %d: %d, %v, want %d", age, now, n, e, want)
			}
			check(t, sample(), bound(-1, age), now)
			check(t, sample(), bound(-1, age), d)
		}
	}
	late := []api.Seg{{Recs: []api.Rec{{Time: 1 << 40}}}, {Base: 1}}
	for _, age := range []int{0, 1, 1 << 30} {
		if n, e := Old(late, bound(-1, age), 1<<40); n != 0 || e != api.OK {
			t.Errorf("the last Time there is, Age %d: %d, %v", age, n, e)
		}
		for _, d := range []int{-1, 0, 1, 2} {
			x := []api.Seg{{Recs: []api.Rec{{Time: 1<<40 - age - d}}}, {Base: 1}}
			if d == -1 && age == 0 {
				continue // a Time above MaxTime
			}
			want := 0
			if d > 0 {
				want = 1
			}
			if n, e := Old(x, bound(-1, age), 1<<40); n != want || e != api.OK {
				t.Errorf("Age %d, %d too old: %d, %v", age, d, n, e)
			}
			check(t, x, bound(-1, age), 1<<40)
		}
	}
}

// P13.1: the last record of a segment tells its age, not the first one.
func TestLastTells(t *testing.T) {
	l := []api.Seg{{Recs: []api.Rec{{Time: 1}, {Offset: 1, Time: 2}, {Offset: 2, Time: 9}}}, {Base: 3}}
	for now, want := range map[int]int{1: 0, 2: 0, 3: 0, 9: 0, 10: 1} {
		if n, e := Old(l, bound(-1, 0), now); n != want || e != api.OK {
			t.Errorf("now %d: %d, %v", now, n, e)
		}
		check(t, l, bound(-1, 0), now)
	}
}

// P13.1: closed segments without records.
func TestWithoutRecs(t *testing.T) {
	old := api.Seg{Base: 5, Recs: []api.Rec{{Offset: 5, Time: 3}}}
	for _, c := range []struct {
		about string
		l     []api.Seg
		r     api.Rules
		now   int
		want  int
	}{
		{"no bounds", append(empties(0, 3), old), free(), 9, 0},
		{"of Bytes none is too much", append(empties(0, 3), old), bound(0, -1), 9, 0},
		{"of any Age", append(empties(0, 3), old), bound(-1, 1<<30), 0, 3},
		{"of an Age of 0, at 0", append(empties(0, 3), old), bound(-1, 0), 0, 3},
		{"of both", append(empties(0, 3), old), bound(0, 0), 0, 3},
		{"ahead of one with too many bytes", []api.Seg{{Base: 5}, {Base: 5}, old, {Base: 6}}, bound(24, -1), 0, 3},
		{"ahead of one with bytes just right", []api.Seg{{Base: 5}, {Base: 5}, old, {Base: 6}}, bound(25, -1), 0, 0},
		{"ahead of one that is young", []api.Seg{{Base: 5}, {Base: 5}, old, {Base: 6}}, bound(-1, 0), 3, 2},
		{"behind one that is young", []api.Seg{old, {Base: 6}, {Base: 6}, {Base: 6}}, bound(-1, 0), 3, 0},
		{"behind one that is old", []api.Seg{old, {Base: 6}, {Base: 6}, {Base: 6}}, bound(-1, 0), 4, 3},
		{"behind one with too many bytes", []api.Seg{old, {Base: 6}, {Base: 6}, {Base: 6}}, bound(0, -1), 4, 1},
		{"the open one alone", []api.Seg{{Base: 6}}, bound(0, 0), 1 << 40, 0},
		{"the open one alone, with a record", []api.Seg{old}, bound(0, 0), 1 << 40, 0},
	} {
		if n, e := Old(c.l, c.r, c.now); n != c.want || e != api.OK {
			t.Errorf("%s: %d, %v, want %d", c.about, n, e, c.want)
		}
		check(t, c.l, c.r, c.now)
	}
}

// P13.1 and P13.2: the open segment counts for nothing, however great and old it is.
func TestOpen(t *testing.T) {
	for i := range sample() {
		l := sample()[:i+1]
		for _, r := range []api.Rules{bound(0, -1), bound(-1, 0), bound(0, 0)} {
			left, e := Keep(l, r, 1<<40)
			want := l[i:]
			if r.Age == -1 && i == 3 {
				want = l[2:] // of no bytes, as all that are closed then
			}
			if !same(left, want) || e != api.OK {
				t.Errorf("%d segments, %+v: %s, %v", i+1, r, brief(left), e)
			}
			check(t, l, r, 1<<40)
		}
	}
}

// P13.1: both bounds together: a segment goes for one of them.
func TestBoth(t *testing.T) {
	for _, c := range []struct{ bytes, age, now, want int }{
		{441, 0, 5, 0},
		{441, 0, 6, 1},
		{440, 0, 5, 1},
		{440, 0, 6, 1},
		{440, 0, 9, 1},
		{440, 0, 10, 4},
		{380, 0, 6, 3}, // the second one for its bytes, the third one for its age: it has no record
		{380, 10, 19, 3},
		{380, 10, 20, 4},
		{380, -1, 20, 2},
		{329, 1 << 30, 0, 4},
		{1 << 30, 1 << 30, 1<<30 + 5, 0},
		{1 << 30, 1 << 30, 1<<30 + 6, 1},
		{-1, -1, 1 << 40, 0},
		{0, 0, 0, 4},
	} {
		if n, e := Old(sample(), bound(c.bytes, c.age), c.now); n != c.want || e != api.OK {
			t.Errorf("Bytes %d, Age %d, now %d: %d, %v, want %d", c.bytes, c.age, c.now, n, e, c.want)
		}
	}
	for _, bytes := range []int{-1, 0, 329, 330, 331, 380, 381, 382, 440, 441, 442, 1 << 30} {
		for age := -1; age < 12; age++ {
			for now := range 30 {
				check(t, sample(), bound(bytes, age), now)
			}
		}
	}
}

// P13.1: SegBytes, Compact and Graves say nothing of what is too old.
func TestOtherRules(t *testing.T) {
	want, _ := Old(sample(), bound(380, 10), 20)
	for _, r := range []api.Rules{
		{SegBytes: 1, Bytes: 380, Age: 10},
		{SegBytes: 1 << 15, Bytes: 380, Age: 10, Graves: 1 << 30},
		{SegBytes: 50, Bytes: 380, Age: 10, Compact: true},
		{SegBytes: 50, Bytes: 380, Age: 10, Compact: true, Graves: 7},
	} {
		if n, e := Old(sample(), r, 20); n != want || e != api.OK {
			t.Errorf("%+v: %d, %v, want %d", r, n, e, want)
		}
		check(t, sample(), r, 20)
	}
}

// P13.1: the document's example.
func TestNoBounds(t *testing.T) {
	for _, now := range []int{0, 1, 10, 1 << 30, 1 << 40} {
		left, e := Keep(sample(), free(), now)
		if !same(left, sample()) || e != api.OK {
			t.Errorf("now %d: %s, %v", now, brief(left), e)
		}
	}
}

// P13.1: the greatest row there is.
func TestGreatest(t *testing.T) {
	long := strings.Repeat("0123456789abcdef", 64)
	var l []api.Seg
	for i := range 200 {
		l = append(l, api.Seg{Base: i, Recs: []api.Rec{{Offset: i, Time: i, Key: long, Body: long, QoS: 2}}})
	}
	l = append(l, api.Seg{Base: 200})
	const each = 25 + 2048
	for _, stay := range []int{0, 1, 100, 199, 200} {
		for d := range 2 {
			n, e := Old(l, bound(stay*each+d, -1), 0)
			if n != 200-stay || e != api.OK {
				t.Errorf("bytes of %d and %d more: %d, %v", stay, d, n, e)
			}
		}
	}
	for _, now := range []int{0, 1, 100, 200, 201} {
		if n, e := Old(l, bound(-1, 0), now); n != min(now, 200) || e != api.OK {
			t.Errorf("now %d: %d, %v", now, n, e)
		}
	}
	check(t, l, bound(100*each, 30), 90)
}

// P13.1 and P13.2: rows, rules and times of many kinds, some of them not as they should be.
func TestRuns(t *testing.T) {
	r := rand.New(rand.NewSource(13))
	for range 3000 {
		var l []api.Seg
		offset, time := r.Intn(20), r.Intn(5)
		for range 1 + r.Intn(6) {
			g := api.Seg{Base: offset}
			for range r.Intn(5) {
				x := api.Rec{Offset: offset, Time: time, QoS: r.Intn(3), Key: strings.Repeat("k", r.Intn(4)), Body: strings.Repeat("b", r.Intn(20))}
				if r.Intn(100) == 0 {
					x.Time -= r.Intn(4)
				}
				g.Recs = append(g.Recs, x)
				offset, time = offset+1+r.Intn(3)*r.Intn(3), time+r.Intn(3)
			}
			if r.Intn(60) == 0 {
				g.Base += r.Intn(5) - 2
			}
			l = append(l, g)
			offset += r.Intn(2) * r.Intn(4)
		}
		for range 8 {
			check(t, l, bound(r.Intn(900)-2, r.Intn(20)-2), r.Intn(40)-1)
		}
	}
}

// R2: what is told is one's own, spare room too.
func TestNothingShared(t *testing.T) {
	room := append(sample(), api.Seg{Base: 77})
	l := room[:5]
	one, _ := Keep(l, free(), 0)
	two, _ := Keep(l, free(), 0)
	for i := range one {
		one[i].Recs = append(one[i].Recs, api.Rec{Key: "behind"})
		if !same(one[i+1:], sample()[i+1:]) {
			t.Errorf("segments of one answer are shared, from %d on: %s", i, brief(one))
		}
	}
	scribble(one)
	if !same(two, sample()) {
		t.Errorf("what is told twice is shared: %s", brief(two))
	}
	if !same(room, append(sample(), api.Seg{Base: 77})) {
		t.Errorf("what was handed in is changed: %s", brief(room))
	}
	for i, g := range two {
		for k, r := range g.Recs {
			given := l[i].Recs[k]
			isShared := r.Key != "" && unsafe.StringData(r.Key) == unsafe.StringData(given.Key) ||
				r.Body != "" && unsafe.StringData(r.Body) == unsafe.StringData(given.Body)
			if isShared {
				t.Errorf("segment %d, record %d: a text's bytes are kept", i, k)
			}
		}
	}
}

// P13.1 and P13.2, of the records that stand in any bytes, parted anywhere.
func FuzzKeep(f *testing.F) {
	all := ""
	for _, g := range sample() {
		for _, r := range g.Recs {
			s, _ := rec.Bytes(r)
			all += s
		}
	}
	f.Add(all, "\x02\x02\x00\x01", 0, 330, 4, 10)
	f.Add(all, "\x01\x01\x01\x01\x01", 1, 0, 0, 1<<40)
	f.Add("", "", 1<<40, -1, -1, -1)
	f.Fuzz(func(t *testing.T, s, cuts string, base, bytes, age, now int) {
		recs, _, _ := rec.Scan(s)
		recs = recs[:min(len(recs), 300)]
		var l []api.Seg
		for i := range min(len(cuts), 300) {
			n := min(int(cuts[i]), len(recs))
			g := api.Seg{Base: base, Recs: recs[:n]}
			if n > 0 {
				base = recs[n-1].Offset + 1
			}
			l = append(l, g)
			recs = recs[n:]
		}
		check(t, l, bound(bytes, age), now)
		check(t, l, api.Rules{SegBytes: bytes, Bytes: age, Age: base, Graves: now}, now)
		check(t, append(l, api.Seg{Base: now, Recs: recs}), bound(bytes, age), now)
	})
}
