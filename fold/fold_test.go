package fold

import (
	"math"
	"math/rand"
	"slices"
	"strconv"
	"strings"
	"testing"
	"unsafe"

	"fairway/api"
	"fairway/rec"
)

// sample says four closed segments and an open one, in a row, some of their keys more than once.
func sample() []api.Seg {
	return []api.Seg{
		{Base: 0, Recs: []api.Rec{
			{Offset: 0, Time: 5, Key: "b", Body: "first"},
			{Offset: 1, Time: 5, Body: "\x00\xffé", QoS: 1},
			{Offset: 2, Time: 6, Key: "b", Body: "second"},
			{Offset: 3, Time: 6, Key: "a", Body: "kept"},
		}},
		{Base: 4, Recs: []api.Rec{
			{Offset: 5, Time: 8, Key: "c", Body: "passed by the open one"},
			{Offset: 7, Time: 9, Key: "b", QoS: 2, Gone: true},
		}},
		{Base: 8},
		{Base: 8, Recs: []api.Rec{
			{Offset: 8, Time: 9, Key: "d", Body: strings.Repeat("b", 300)},
			{Offset: 9, Time: 9, Gone: true},
		}},
		{Base: 100, Recs: []api.Rec{
			{Offset: 100, Time: 20, Key: "c", Body: "one"},
			{Offset: 101, Time: 20, Key: "c", Body: "two"},
			{Offset: 102, Time: 21, Key: "e", Gone: true},
		}},
	}
}

// changed says the sample, changed.
func changed(change func([]api.Seg)) []api.Seg {
	l := sample()
	change(l)
	return l
}

// compact says rules that compact, and let a tombstone stay so long.
func compact(graves int) api.Rules {
	return api.Rules{SegBytes: 1, Bytes: -1, Age: -1, Compact: true, Graves: graves}
}

// keyed says records of these keys, of Offsets from base on and of the Time 0.
func keyed(base int, keys ...string) []api.Rec {
	var l []api.Rec
	for i, key := range keys {
		l = append(l, api.Rec{Offset: base + i, Key: key, Body: "of " + strconv.Itoa(base+i)})
	}
	return l
}

// closed says a closed segment of records, and an open one without any.
func closed(recs ...api.Rec) []api.Seg {
	return []api.Seg{{Base: recs[0].Offset, Recs: recs}, {Base: recs[len(recs)-1].Offset + 1}}
}

// offsets says the Offsets of all records.
func offsets(l []api.Seg) []int {
	var all []int
	for _, g := range l {
		for _, r := range g.Recs {
			all = append(all, r.Offset)
		}
	}
	return all
}

// bases says the Bases of all segments.
func bases(l []api.Seg) []int {
	var all []int
	for _, g := range l {
		all = append(all, g.Base)
	}
	return all
}

// edges says numbers at and beyond all bounds that numbers have.
func edges() []int {
	return []int{math.MinInt, -1 << 40, -1 << 30, -3, -2, -1, 0, 1, 2, 3, 255, 32767, 32768, 32769, 65535, 65536,
		1<<30 - 1, 1 << 30, 1<<30 + 1, 1<<31 - 1, 1 << 31, 1<<32 - 1, 1 << 32, 1<<32 + 1, 1<<40 - 1, 1 << 40, 1<<40 + 1, math.MaxInt}
}

// badSegs says segments that may not be, for the Offsets 10 to 99 and the Time 9 of the sample.
func badSegs() map[string]api.Seg {
	long := strings.Repeat("x", 1025)
	many := api.Seg{Base: 10}
	for i := range 201 {
		many.Recs = append(many.Recs, api.Rec{Offset: 10 + i, Time: 9})
	}
	return map[string]api.Seg{
		"a Base below 0":           {Base: -1},
		"a Base above MaxOffset":   {Base: 1<<40 + 1},
		"an Offset below Base":     {Base: 12, Recs: []api.Rec{{Offset: 11, Time: 9}}},
		"an Offset twice":          {Base: 10, Recs: []api.Rec{{Offset: 10, Time: 9}, {Offset: 10, Time: 9}}},
		"an Offset that falls":     {Base: 10, Recs: []api.Rec{{Offset: 11, Time: 9}, {Offset: 10, Time: 9}}},
		"a Time that falls":        {Base: 10, Recs: []api.Rec{{Offset: 10, Time: 10}, {Offset: 11, Time: 9}}},
		"a QoS of 3":               {Base: 10, Recs: []api.Rec{{Offset: 10, Time: 9, QoS: 3}}},
		"a Gone one with a Body":   {Base: 10, Recs: []api.Rec{{Offset: 10, Time: 9, Body: "b", Gone: true}}},
		"a Key too long":           {Base: 10, Recs: []api.Rec{{Offset: 10, Time: 9, Key: long}}},
		"a Body too long":          {Base: 10, Recs: []api.Rec{{Offset: 10, Time: 9}, {Offset: 11, Time: 9, Body: long}}},
		"an Offset of MaxOffset":   {Base: 10, Recs: []api.Rec{{Offset: 1 << 40, Time: 9}}},
		"a Time above MaxTime":     {Base: 10, Recs: []api.Rec{{Offset: 10, Time: 1<<40 + 1}}},
		"more records than may be": many,
	}
}

// P14.1: segments that may not be, at each place, with rules that compact and that don't.
func TestBadSegs(t *testing.T) {
	for about, g := range badSegs() {
		for i := range len(sample()) + 1 {
			l := slices.Insert(sample(), i, g)
			checkForm(t, about, l, compact(0), 30)
			if left, e := Lasts(l); len(left) > 0 || e != api.ErrForm {
				t.Errorf("%s at %d: Lasts: %s, %v", about, i, brief(left), e)
			}
			if i < len(sample()) {
				checkForm(t, about, changed(func(l []api.Seg) { l[i] = g }), compact(0), 30)
			}
		}
		checkForm(t, about+", alone", []api.Seg{g}, compact(0), 0)
	}
}

// P14.1: segments that may be, but are not in a row.
func TestNoRow(t *testing.T) {
	many := make([]api.Seg, 202)
	full := api.Seg{Recs: make([]api.Rec, 200)}
	for i := range full.Recs {
		full.Recs[i] = api.Rec{Offset: i, Key: "k"}
	}
	for about, l := range map[string][]api.Seg{
		"none":                   nil,
		"none, with room":        sample()[:0],
		"too many":               many,
		"too many records":       {full, {Base: 200, Recs: keyed(200, "k")}},
		"a Base that falls":      {{Base: 5}, {Base: 4}},
		"a Base that is there":   {{Base: 5, Recs: keyed(5, "k")}, {Base: 5}},
		"a Base between Offsets": {{Base: 5, Recs: keyed(5, "a", "b", "c")}, {Base: 6, Recs: keyed(8, "a")}},
		"a Time that falls":      {{Recs: []api.Rec{{Time: 2, Key: "k"}}}, {Base: 1, Recs: []api.Rec{{Offset: 1, Time: 1, Key: "k"}}}},
	} {
		checkForm(t, about, l, compact(0), 0)
		if left, e := Lasts(l); len(left) > 0 || e != api.ErrForm {
			t.Errorf("%s: Lasts: %s, %v", about, brief(left), e)
		}
	}
	for about, l := range map[string][]api.Seg{
		"as many as may be":         many[1:],
		"as many records as may be": {full, {Base: 200}},
		"as many, all of them open": {full},
	} {
		if _, e := Lasts(l); e != api.OK {
			t.Errorf("%s: Lasts: %v", about, e)
		}
		if _, e := Fold(l, compact(0), 0); e != api.OK {
			t.Errorf("%s: Fold: %v", about, e)
		}
		check(t, l, compact(0), 0)
	}
}

// P14.1: rules that may not be, each number of them at and beyond its bounds.
func TestRules(t *testing.T) {
	for _, n := range edges() {
		for _, c := range []struct {
			about string
			r     api.Rules
			may   bool
		}{
			{"SegBytes", api.Rules{SegBytes: n, Bytes: -1, Age: -1}, n >= 1 && n <= 1<<15},
			{"Bytes", api.Rules{SegBytes: 1, Bytes: n}, n >= -1 && n <= 1<<30},
			{"Age", api.Rules{SegBytes: 1, Age: n}, n >= -1 && n <= 1<<30},
			{"Graves", api.Rules{SegBytes: 1, Graves: n}, n >= 0 && n <= 1<<30},
		} {
			for _, compact := range []bool{false, true} {
				c.r.Compact = compact
				if _, e := Fold(sample(), c.r, 12); e != errnoOf(c.may) {
					t.Errorf("%s of %d, %v: %v", c.about, n, compact, e)
				}
				check(t, sample(), c.r, 12)
			}
			if !c.may {
				checkForm(t, c.about, sample()[4:], c.r, 12)
				checkForm(t, c.about, nil, c.r, -1)
			}
		}
	}
	checkForm(t, "none at all", sample(), api.Rules{}, 12)
}

// P14.1: a time from 0 to MaxTime, also where nothing can go.
func TestNow(t *testing.T) {
	for _, now := range edges() {
		for _, l := range [][]api.Seg{sample(), sample()[4:], {{Base: 3}, {Base: 3}}} {
			for _, r := range []api.Rules{compact(0), compact(1 << 30), {SegBytes: 1, Bytes: -1, Age: -1}} {
				if _, e := Fold(l, r, now); e != errnoOf(now >= 0 && now <= 1<<40) {
					t.Errorf("now %d: %v", now, e)
				}
				check(t, l, r, now)
			}
		}
		checkForm(t, "none", nil, compact(0), now)
	}
}

// P14.1: of rules that do not Compact all stays: what is passed, tombstones, segments without records.
func TestNotCompact(t *testing.T) {
	for i := range sample() {
		for _, now := range []int{0, 9, 10, 1 << 40} {
			for _, r := range []api.Rules{
				{SegBytes: 1},
				{SegBytes: 1, Bytes: -1, Age: -1},
				{SegBytes: 1 << 15, Bytes: 10, Age: 1, Graves: 5},
			} {
				if left, e := Fold(sample()[:i+1], r, now); !same(left, sample()[:i+1]) || e != api.OK {
					t.Errorf("%d segments, %+v, now %d: %s, %v", i+1, r, now, brief(left), e)
				}
				check(t, sample()[:i+1], r, now)
			}
		}
	}
}

// P14.1: the document's example.
func TestTwoOfOneKey(t *testing.T) {
	l := closed(keyed(0, "k", "k")...)
	left, e := Fold(l, compact(0), 0)
	if want := []api.Seg{{Base: 0, Recs: keyed(1, "k")}, {Base: 2}}; !same(left, want) || e != api.OK {
		t.Errorf("%s, %v, want %s", brief(left), e, brief(want))
	}
	if lasts, e := Lasts(l); !sameRecs(lasts, keyed(1, "k")) || e != api.OK {
		t.Errorf("Lasts: %s, %v", brief(lasts), e)
	}
	check(t, l, compact(0), 0)
}

// P14.1: the sample, at times about those of its tombstones.
func TestSample(t *testing.T) {
	for _, c := range []struct {
		graves, now    int
		offsets, bases []int
	}{
		{0, 0, []int{1, 3, 7, 8, 9, 100, 101, 102}, []int{0, 4, 8, 100}},
		{0, 9, []int{1, 3, 7, 8, 9, 100, 101, 102}, []int{0, 4, 8, 100}},
		{0, 10, []int{1, 3, 8, 100, 101, 102}, []int{0, 8, 100}},
		{5, 14, []int{1, 3, 7, 8, 9, 100, 101, 102}, []int{0, 4, 8, 100}},
		{5, 15, []int{1, 3, 8, 100, 101, 102}, []int{0, 8, 100}},
		{0, 1 << 40, []int{1, 3, 8, 100, 101, 102}, []int{0, 8, 100}},
		{1 << 30, 1 << 30, []int{1, 3, 7, 8, 9, 100, 101, 102}, []int{0, 4, 8, 100}},
	} {
		left, e := Fold(sample(), compact(c.graves), c.now)
		if !slices.Equal(offsets(left), c.offsets) || !slices.Equal(bases(left), c.bases) || e != api.OK {
			t.Errorf("Graves %d, now %d: %v from %v, %v, want %v from %v", c.graves, c.now, offsets(left), bases(left), e, c.offsets, c.bases)
		}
	}
	lasts, e := Lasts(sample())
	want := []api.Rec{sample()[0].Recs[3], sample()[4].Recs[1], sample()[3].Recs[0]}
	if !sameRecs(lasts, want) || e != api.OK {
		t.Errorf("Lasts: %s, %v, want %s", brief(lasts), e, brief(want))
	}
	for graves := range 20 {
		for now := range 40 {
			for i := range sample() {
				check(t, sample()[i:], compact(graves), now)
				check(t, sample()[:i+1], compact(graves), now)
			}
		}
	}
}

// P14.1: where the later one of a key stands, and what the two are.
func TestLater(t *testing.T) {
	one := api.Rec{Offset: 1, Time: 3, Key: "k", Body: "one"}
	gone := api.Rec{Offset: 1, Time: 3, Key: "k", Gone: true}
	two := api.Rec{Offset: 2, Time: 4, Key: "k", Body: "two"}
	twoGone := api.Rec{Offset: 2, Time: 4, Key: "k", Gone: true}
	other := api.Rec{Offset: 2, Time: 4, Key: "other"}
	for _, c := range []struct {
		about string
		l     []api.Seg
		now   int
		want  []api.Seg
		lasts []api.Rec
	}{
		{"in the same closed segment", closed(one, two), 0, []api.Seg{{Base: 1, Recs: []api.Rec{two}}, {Base: 3}}, []api.Rec{two}},
		{"in another closed one", []api.Seg{{Recs: []api.Rec{one}}, {Base: 2, Recs: []api.Rec{two}}, {Base: 9}}, 0, []api.Seg{{Base: 2, Recs: []api.Rec{two}}, {Base: 9}}, []api.Rec{two}},
		{"in the open one", []api.Seg{{Recs: []api.Rec{one}}, {Base: 2, Recs: []api.Rec{two}}}, 0, []api.Seg{{Base: 2, Recs: []api.Rec{two}}}, []api.Rec{two}},
		{"both in the open one", []api.Seg{{}, {Base: 1, Recs: []api.Rec{one, two}}}, 0, []api.Seg{{Base: 1, Recs: []api.Rec{one, two}}}, []api.Rec{two}},
		{"none", closed(one, other), 1 << 40, closed(one, other), []api.Rec{one, other}},
		{"a tombstone", closed(one, twoGone), 4, []api.Seg{{Base: 1, Recs: []api.Rec{twoGone}}, {Base: 3}}, nil},
		{"a tombstone that goes too", closed(one, twoGone), 5, []api.Seg{{Base: 3}}, nil},
		{"an open tombstone", []api.Seg{{Recs: []api.Rec{one}}, {Base: 2, Recs: []api.Rec{twoGone}}}, 1 << 40, []api.Seg{{Base: 2, Recs: []api.Rec{twoGone}}}, nil},
		{"of a tombstone that is not old", closed(gone, two), 0, []api.Seg{{Base: 1, Recs: []api.Rec{two}}, {Base: 3}}, []api.Rec{two}},
		{"of a tombstone that is old", closed(gone, two), 9, []api.Seg{{Base: 1, Recs: []api.Rec{two}}, {Base: 3}}, []api.Rec{two}},
		{"a tombstone of a tombstone", closed(gone, twoGone), 3, []api.Seg{{Base: 1, Recs: []api.Rec{twoGone}}, {Base: 3}}, nil},
		{"both tombstones, all old", closed(gone, twoGone), 5, []api.Seg{{Base: 3}}, nil},
		{"the older tombstone alone", closed(gone), 4, []api.Seg{{Base: 2}}, nil},
		{"an open tombstone alone", []api.Seg{{Recs: []api.Rec{gone}}}, 4, []api.Seg{{Recs: []api.Rec{gone}}}, nil},
	} {
		left, e := Fold(c.l, compact(0), c.now)
		if !same(left, c.want) || e != api.OK {
			t.Errorf("%s: %s, %v, want %s", c.about, brief(left), e, brief(c.want))
		}
		if lasts, e := Lasts(c.l); !sameRecs(lasts, c.lasts) || e != api.OK {
			t.Errorf("%s: Lasts: %s, %v, want %s", c.about, brief(lasts), e, brief(c.lasts))
		}
		check(t, c.l, compact(0), c.now)
	}
}

// P14.1: the empty Key is none: nothing passes it, Lasts tells nothing of it, and its tombstones go as all do.
func TestNoKey(t *testing.T) {
	l := closed(
		api.Rec{Offset: 0, Time: 1, Body: "one"},
		api.Rec{Offset: 1, Time: 1, Body: "one"},
		api.Rec{Offset: 2, Time: 2, Gone: true},
		api.Rec{Offset: 3, Time: 3, Gone: true},
		api.Rec{Offset: 4, Time: 3},
	)
	l[1].Recs = []api.Rec{{Offset: 5, Time: 3, Gone: true}, {Offset: 6, Time: 3, Body: "open"}}
	for now, want := range [][]int{{0, 1, 2, 3, 4, 5, 6}, {0, 1, 2, 3, 4, 5, 6}, {0, 1, 2, 3, 4, 5, 6}, {0, 1, 3, 4, 5, 6}, {0, 1, 4, 5, 6}} {
		if left, e := Fold(l, compact(0), now); !slices.Equal(offsets(left), want) || e != api.OK {
			t.Errorf("now %d: %v, %v, want %v", now, offsets(left), e, want)
		}
		check(t, l, compact(0), now)
	}
	if lasts, e := Lasts(l); len(lasts) > 0 || e != api.OK {
		t.Errorf("Lasts: %s, %v", brief(lasts), e)
	}
}

// P14.1: keys that are nearly the same are not the same, and are told in the order of their bytes.
func TestKeys(t *testing.T) {
	keys := []string{"\x00", "\x00\x00", " ", "/", "A", "AA", "B", "K", "a", "a\x00", "a\x00b", "a ", "aa", "a~", "b", "k", "z", "\x7f", "\x80", "e\u0301", "é", "ÿ", "\u212a", "\uffff", "\U0001f600", "\xff", "\xff\xff", strings.Repeat("x", 1023), strings.Repeat("x", 1024), strings.Repeat("x", 1023) + "y"}
	sorted := slices.Clone(keys)
	slices.Sort(sorted)
	for from := range keys {
		order := append(slices.Clone(keys[from:]), keys[:from]...)
		l := []api.Seg{{Recs: keyed(0, order[:10]...)}, {Base: 10, Recs: keyed(10, order[10:20]...)}, {Base: 20, Recs: keyed(20, order[20:]...)}}
		if left, e := Fold(l, compact(0), 1<<40); !same(left, l) || e != api.OK {
			t.Errorf("from %q on: something went: %s, %v", keys[from], brief(left), e)
		}
		lasts, e := Lasts(l)
		var told []string
		for _, r := range lasts {
			told = append(told, r.Key)
		}
		if !slices.Equal(told, sorted) || e != api.OK {
			t.Errorf("from %q on: Lasts: %q, %v", keys[from], told, e)
		}
		check(t, l, compact(0), 0)
		twice := closed(append(keyed(0, order...), keyed(len(order), keys...)...)...)
		if left, e := Fold(twice, compact(0), 0); !sameRecs(left[0].Recs, keyed(len(order), keys...)) || e != api.OK {
			t.Errorf("from %q on, twice: %v, %v", keys[from], offsets(left), e)
		}
		check(t, twice, compact(0), 0)
	}
	var bytes []string
	for b := range 200 {
		bytes = append(bytes, string([]byte{byte(b*7 + 1)}))
	}
	check(t, closed(keyed(0, bytes...)...), compact(0), 0)
}

// P14.1: how long a tombstone stays, about its Time and Graves together.
func TestGraves(t *testing.T) {
	for _, graves := range []int{0, 1, 2, 10, 1000, 1<<30 - 1, 1 << 30} {
		for _, time := range []int{0, 1, 7, 1 << 30, 1<<40 - 1<<30, 1<<40 - 1000, 1<<40 - 1, 1 << 40} {
			l := closed(api.Rec{Time: time, Key: "k", Gone: true})
			alive := closed(api.Rec{Time: time, Key: "k"})
			for d := -2; d <= 2; d++ {
				now := time + graves + d
				if now < 0 || now > 1<<40 {
					continue
				}
				want := l
				if d > 0 {
					want = l[1:]
				}
				if left, e := Fold(l, compact(graves), now); !same(left, want) || e != api.OK {
					t.Errorf("Time %d, Graves %d, now %d: %s, %v", time, graves, now, brief(left), e)
				}
				if left, e := Fold(alive, compact(graves), now); !same(left, alive) || e != api.OK {
					t.Errorf("Time %d, Graves %d, now %d, no tombstone: %s, %v", time, graves, now, brief(left), e)
				}
				if left, e := Fold(l[:1], compact(graves), now); !same(left, l[:1]) || e != api.OK {
					t.Errorf("Time %d, Graves %d, now %d, open: %s, %v", time, graves, now, brief(left), e)
				}
				check(t, l, compact(graves), now)
			}
			check(t, l, compact(graves), 1<<40)
		}
	}
}

// P14.1: which segments go: closed ones without records, whether they had some or not; the open one stays.
func TestWithoutRecs(t *testing.T) {
	for _, c := range []struct {
		about string
		l     []api.Seg
		want  []api.Seg
	}{
		{"the open one alone", []api.Seg{{Base: 4}}, []api.Seg{{Base: 4}}},
		{"ahead of an open one without records", []api.Seg{{Base: 4}, {Base: 4}, {Base: 9}}, []api.Seg{{Base: 9}}},
		{"ahead of an open one with a record", []api.Seg{{Base: 4}, {Base: 4}, {Base: 5, Recs: keyed(7, "k")}}, []api.Seg{{Base: 5, Recs: keyed(7, "k")}}},
		{"first", []api.Seg{{Base: 4}, {Base: 4, Recs: keyed(4, "k")}, {Base: 9}}, []api.Seg{{Base: 4, Recs: keyed(4, "k")}, {Base: 9}}},
		{"between", []api.Seg{{Base: 3, Recs: keyed(4, "k")}, {Base: 5}, {Base: 9}}, []api.Seg{{Base: 3, Recs: keyed(4, "k")}, {Base: 9}}},
		{"the first of a segment goes", []api.Seg{{Base: 3, Recs: keyed(4, "k", "l")}, {Base: 6, Recs: keyed(6, "k")}}, []api.Seg{{Base: 3, Recs: keyed(5, "l")}, {Base: 6, Recs: keyed(6, "k")}}},
		{"the last of a segment goes", []api.Seg{{Base: 3, Recs: keyed(4, "l", "k")}, {Base: 6, Recs: keyed(6, "k")}}, []api.Seg{{Base: 3, Recs: keyed(4, "l")}, {Base: 6, Recs: keyed(6, "k")}}},
		{"one is emptied", []api.Seg{{Base: 3, Recs: keyed(4, "k")}, {Base: 5, Recs: keyed(5, "l")}, {Base: 6, Recs: keyed(6, "k")}}, []api.Seg{{Base: 5, Recs: keyed(5, "l")}, {Base: 6, Recs: keyed(6, "k")}}},
		{"all are emptied", []api.Seg{{Base: 3, Recs: keyed(4, "k", "l", "k")}, {Base: 7, Recs: keyed(8, "l")}, {Base: 9}, {Base: 9, Recs: keyed(10, "k", "l", "l")}}, []api.Seg{{Base: 9, Recs: keyed(10, "k", "l", "l")}}},
	} {
		if left, e := Fold(c.l, compact(0), 0); !same(left, c.want) || e != api.OK {
			t.Errorf("%s: %s, %v, want %s", c.about, brief(left), e, brief(c.want))
		}
		check(t, c.l, compact(0), 0)
	}
}

// P14.1: SegBytes, Bytes and Age say nothing of what compaction takes out.
func TestOtherRules(t *testing.T) {
	want, _ := Fold(sample(), compact(2), 12)
	for _, r := range []api.Rules{
		{SegBytes: 1 << 15, Bytes: -1, Age: -1, Compact: true, Graves: 2},
		{SegBytes: 1, Bytes: 0, Age: -1, Compact: true, Graves: 2},
		{SegBytes: 1, Bytes: -1, Age: 0, Compact: true, Graves: 2},
		{SegBytes: 50, Bytes: 1 << 30, Age: 1 << 30, Compact: true, Graves: 2},
	} {
		if left, e := Fold(sample(), r, 12); !same(left, want) || e != api.OK {
			t.Errorf("%+v: %s, %v, want %s", r, brief(left), e, brief(want))
		}
		check(t, sample(), r, 12)
	}
}

// P14.1: the greatest rows there are.
func TestGreatest(t *testing.T) {
	long := strings.Repeat("0123456789abcdef", 64)
	for _, keys := range []int{1, 2, 100, 199, 200} {
		var l []api.Seg
		for i := range 200 {
			key := long[:1020] + strconv.Itoa(1000+i%keys)
			l = append(l, api.Seg{Base: i, Recs: []api.Rec{{Offset: i, Time: i, Key: key, Body: long, QoS: 2}}})
		}
		for _, x := range [][]api.Seg{l, append(slices.Clone(l), api.Seg{Base: 200})} {
			if left, e := Fold(x, compact(0), 1<<40); len(offsets(left)) != keys || e != api.OK {
				t.Errorf("%d keys: %d records, %v", keys, len(offsets(left)), e)
			}
			if lasts, e := Lasts(x); len(lasts) != keys || e != api.OK {
				t.Errorf("%d keys: Lasts: %d, %v", keys, len(lasts), e)
			}
			check(t, x, compact(0), 90)
		}
	}
}

// randomRow says segments of a few keys, tombstones among them, some of them not as they should be.
func randomRow(r *rand.Rand) []api.Seg {
	var l []api.Seg
	keys := []string{"", "a", "b", "ab", "c"}[:1+r.Intn(5)]
	offset, time := r.Intn(20), r.Intn(5)
	for range 1 + r.Intn(6) {
		g := api.Seg{Base: offset}
		for range r.Intn(5) {
			x := api.Rec{Offset: offset, Time: time, QoS: r.Intn(3), Key: keys[r.Intn(len(keys))], Gone: r.Intn(4) == 0}
			if !x.Gone || r.Intn(200) == 0 {
				x.Body = strings.Repeat("b", r.Intn(3))
			}
			if r.Intn(200) == 0 {
				x.Time -= r.Intn(4)
			}
			g.Recs = append(g.Recs, x)
			offset, time = offset+1+r.Intn(3)*r.Intn(3), time+r.Intn(3)
		}
		if r.Intn(80) == 0 {
			g.Base += r.Intn(5) - 2
		}
		l = append(l, g)
		offset += r.Intn(2) * r.Intn(4)
	}
	return l
}

// P14.1 and P14.2: rows, rules and times of many kinds.
func TestRuns(t *testing.T) {
	r := rand.New(rand.NewSource(14))
	for range 3000 {
		l := randomRow(r)
		for range 8 {
			rules := compact(r.Intn(12) - 1)
			rules.Compact = r.Intn(8) > 0
			check(t, l, rules, r.Intn(40)-1)
		}
	}
}

// P14.2: folded time and again, by other rules and at other times, the lasts stay what they were.
func TestAgain(t *testing.T) {
	r := rand.New(rand.NewSource(142))
	for range 500 {
		l := randomRow(r)
		was, e := Lasts(l)
		if e != api.OK {
			continue
		}
		for range 6 {
			l, e = Fold(l, compact(r.Intn(10)), r.Intn(40))
			if lasts, _ := Lasts(l); !sameRecs(lasts, was) || e != api.OK {
				t.Fatalf("%s: %s, %v, were %s", brief(l), brief(lasts), e, brief(was))
			}
		}
	}
}

// isOneText says whether two texts have their bytes in one place.
func isOneText(a, b string) bool {
	return a != "" && b != "" && unsafe.StringData(a) == unsafe.StringData(b)
}

// R2: what is told is one's own, spare room too.
func TestNothingShared(t *testing.T) {
	for _, rules := range []api.Rules{compact(0), compact(1 << 30), {SegBytes: 1, Bytes: -1, Age: -1}} {
		room := append(sample(), api.Seg{Base: 777})
		l := room[:5]
		one, _ := Fold(l, rules, 12)
		two, _ := Fold(l, rules, 12)
		want, _ := wantFold(l, rules, 12)
		for i := range one {
			one[i].Recs = append(one[i].Recs, api.Rec{Key: "behind"})
			if !same(one[i+1:], want[i+1:]) {
				t.Errorf("segments of one answer are shared, from %d on: %s", i, brief(one))
			}
		}
		scribble(two[len(two):cap(two)])
		if !same(two, want) {
			t.Errorf("what is told stands in its own spare room: %s", brief(two))
		}
		scribble(one)
		if !same(two, want) {
			t.Errorf("what is told twice is shared: %s", brief(two))
		}
		lasts, _ := Lasts(l)
		again, _ := Lasts(l)
		wantLast, _ := wantLasts(l)
		scribbleRecs(append(lasts, api.Rec{Key: "behind"}))
		scribbleRecs(lasts)
		if !sameRecs(again, wantLast) {
			t.Errorf("lasts that are told twice are shared: %s", brief(again))
		}
		if !same(room, append(sample(), api.Seg{Base: 777})) {
			t.Errorf("what was handed in is changed: %s", brief(room))
		}
		checkTexts(t, l, append(deep(two), api.Seg{Recs: again}))
	}
}

// checkTexts holds that no text of what is told has its bytes where one that was handed in has them.
func checkTexts(t *testing.T, given, told []api.Seg) {
	t.Helper()
	for _, x := range spread(told) {
		for _, y := range spread(given) {
			if isOneText(x.Key, y.Key) || isOneText(x.Body, y.Body) {
				t.Errorf("Offset %d: a text's bytes are kept", x.Offset)
			}
		}
	}
}

// P14.1 and P14.2, of the records that stand in any bytes, parted anywhere.
func FuzzFold(f *testing.F) {
	all := ""
	for _, x := range spread(sample()) {
		s, _ := rec.Bytes(x.Rec)
		all += s
	}
	f.Add(all, "\x04\x02\x00\x02", "", 0, 5, 10)
	f.Add(all, "\x01\x01\x01\x01\x01", "\x00\x01\x02", 1, 0, 1<<40)
	f.Add("", "", "", 1<<40, -1, -1)
	f.Fuzz(func(t *testing.T, s, cuts, keys string, base, graves, now int) {
		recs, _, _ := rec.Scan(s)
		recs = recs[:min(len(recs), 300)]
		for i := range min(len(keys), len(recs)) { // any bytes seldom have one key twice
			recs[i].Key = keys[i : i+1]
		}
		var l []api.Seg
		for i := range min(len(cuts), 300) {
			n := min(int(cuts[i]), len(recs))
			g := api.Seg{Base: base, Recs: recs[:n]}
			if n > 0 {
				base = recs[n-1].Offset + 1
			}
			l = append(l, g)
			recs = recs[n:]
		}
		check(t, l, compact(graves), now)
		check(t, append(l, api.Seg{Base: base, Recs: recs}), compact(graves), now)
	})
}
