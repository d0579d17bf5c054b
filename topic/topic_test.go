package topic

import (
	"math"
	"math/rand"
	"slices"
	"strconv"
	"strings"
	"testing"
	"unsafe"

	"fairway/api"
	"fairway/rec"
)

// boundless says rules by which nothing goes, and a segment that has so many bytes is closed.
func boundless(segBytes int) api.Rules {
	return api.Rules{SegBytes: segBytes, Bytes: -1, Age: -1}
}

// sample says a topic of three closed segments and an open one, some of its offsets not there any more.
func sample() api.Topic {
	return api.Topic{
		Name:  "a/b",
		Rules: api.Rules{SegBytes: 100, Bytes: -1, Age: -1, Compact: true, Graves: 2},
		Segs: []api.Seg{
			{Base: 2, Recs: []api.Rec{
				{Offset: 3, Time: 5, Key: "k", Body: "first"},
				{Offset: 4, Time: 5, Body: "\x00\xffé", QoS: 1},
				{Offset: 6, Time: 6, Key: "l", Body: "kept"},
			}},
			{Base: 8},
			{Base: 9, Recs: []api.Rec{
				{Offset: 9, Time: 8, Key: "m", Gone: true},
				{Offset: 11, Time: 8, Key: "k", Body: strings.Repeat("b", 300), QoS: 2},
			}},
			{Base: 20, Recs: []api.Rec{
				{Offset: 21, Time: 10, Key: "n", Body: "one"},
				{Offset: 22, Time: 12, Key: "n", Body: "two"},
			}},
		},
		Next: 30,
		Safe: 10,
	}
}

// changed says the sample, changed.
func changed(change func(*api.Topic)) api.Topic {
	x := sample()
	change(&x)
	return x
}

// of says a topic of segments, all safe, whose Next is as low as may be.
func of(r api.Rules, segs ...api.Seg) api.Topic {
	x := api.Topic{Name: "t", Rules: r, Segs: segs}
	for _, g := range segs {
		x.Next = max(x.Next, g.Base)
		for _, r := range g.Recs {
			x.Next = r.Offset + 1
		}
	}
	x.Safe = x.Next
	return x
}

// recs says records of these Offsets, each of the Time 0 and of 25 bytes.
func recs(offsets ...int) []api.Rec {
	var l []api.Rec
	for _, n := range offsets {
		l = append(l, api.Rec{Offset: n})
	}
	return l
}

// row says n records from the Offset 0 on.
func row(n int) []api.Rec {
	l := make([]api.Rec, n)
	for i := range l {
		l[i].Offset = i
	}
	return l
}

// offsets says the Offsets of all records of a topic.
func offsets(x api.Topic) []int {
	var all []int
	for _, r := range spread(x.Segs) {
		all = append(all, r.Offset)
	}
	return all
}

// bases says the Bases of all segments of a topic.
func bases(x api.Topic) []int {
	var all []int
	for _, g := range x.Segs {
		all = append(all, g.Base)
	}
	return all
}

// edges says numbers at and beyond all bounds that numbers have.
func edges() []int {
	return []int{math.MinInt, -1 << 40, -1 << 30, -3, -2, -1, 0, 1, 2, 3, 255, 32767, 32768, 32769, 65535, 65536,
		1<<30 - 1, 1 << 30, 1<<30 + 1, 1<<31 - 1, 1 << 31, 1<<32 - 1, 1 << 32, 1<<32 + 1, 1<<40 - 1, 1 << 40, 1<<40 + 1, math.MaxInt}
}

// P15.1: which names a topic may have.
func TestNames(t *testing.T) {
	long := strings.Repeat("x", 1023)
	for s, may := range map[string]bool{
		"":                               false,
		"t":                              true,
		"/":                              true,
		"a/b c/é":                        true,
		"a+":                             false,
		"+":                              false,
		"#":                              false,
		"a/#":                            false,
		"a\x00":                          false,
		"a\x1f":                          false,
		"a\x7f":                          false,
		"a\xff":                          false,
		"a\ufffe":                        false,
		"\uff04+":                        false,
		" $+":                            false,
		"x" + long:                       true,
		"xx" + long:                      false,
		strings.Repeat("/", 15):          true,
		strings.Repeat("/", 16):          false,
		"a$/+":                           false,
		"$":                              true,
		"$$":                             true,
		"$/":                             true,
		"$+":                             true,
		"$#":                             true,
		"$a/#/b":                         true,
		"$share/g/+/#":                   true,
		"$groups":                        true,
		"$é\uffee😀":                      true,
		"$\ufffd":                        true,
		"$\x00":                          false,
		"$\x1f":                          false,
		"$/+#\x7f":                       false,
		"$\u0085":                        false,
		"$\xff":                          false,
		"$\xc3":                          false,
		"$\xc3/":                         false,
		"$\xc3+\xa9":                     false,
		"$\xed\xa0\x80":                  false,
		"$\xc0\xaf":                      false,
		"$\ufdd0":                        false,
		"$\uffff":                        false,
		"$\U0010ffff":                    false,
		"$" + strings.Repeat("/", 16):    true,
		"$" + strings.Repeat("/+#", 341): true,
		"$" + strings.Repeat("/", 1024):  false,
		"$" + long:                       true,
		"$x" + long:                      false,
	} {
		x, e := New(s, boundless(1))
		if e != errnoOf(may) || may && x.Name != s {
			t.Errorf("New(%q): %v", s, e)
		}
		if may != wantName(s) {
			t.Errorf("the model of %q: %v", s, wantName(s))
		}
		x = changed(func(x *api.Topic) { x.Name = s })
		if e := Check(x); e != errnoOf(may) {
			t.Errorf("%q: %v", s, e)
		}
		if !may {
			checkForm(t, "the name "+strconv.Quote(s), x)
		}
		check(t, x, ask{n: 12})
	}
}

// P15.1: rules that may not be, each number of them at and beyond its bounds.
func TestRules(t *testing.T) {
	for _, n := range edges() {
		for _, c := range []struct {
			about string
			r     api.Rules
			may   bool
		}{
			{"SegBytes", api.Rules{SegBytes: n, Bytes: -1, Age: -1}, n >= 1 && n <= 1<<15},
			{"Bytes", api.Rules{SegBytes: 1, Bytes: n}, n >= -1 && n <= 1<<30},
			{"Age", api.Rules{SegBytes: 1, Age: n}, n >= -1 && n <= 1<<30},
			{"Graves", api.Rules{SegBytes: 1, Graves: n}, n >= 0 && n <= 1<<30},
		} {
			x, e := New("t", c.r)
			if want := (api.Topic{Name: "t", Rules: c.r, Segs: []api.Seg{{}}}); e != errnoOf(c.may) || c.may && !same(x, want) {
				t.Errorf("New of %s %d: %s, %v", c.about, n, brief(x), e)
			}
			x = changed(func(x *api.Topic) { x.Rules = c.r })
			if e := Check(x); e != errnoOf(c.may) {
				t.Errorf("%s of %d: %v", c.about, n, e)
			}
			if !c.may {
				checkForm(t, c.about, x)
			}
			check(t, x, ask{rec: api.Rec{Time: 12}, now: 12, n: 25})
		}
	}
	checkForm(t, "none at all", changed(func(x *api.Topic) { x.Rules = api.Rules{} }))
	checkForm(t, "no topic at all", api.Topic{})
}

// P15.1: segments that may not be, at each place, and segments that are in no row.
func TestRow(t *testing.T) {
	for about, g := range map[string]api.Seg{
		"a Base below 0":         {Base: -1},
		"a Base above MaxOffset": {Base: 1<<40 + 1},
		"an Offset below Base":   {Base: 13, Recs: recs(12)},
		"an Offset twice":        {Base: 12, Recs: recs(12, 12)},
		"an Offset that falls":   {Base: 12, Recs: recs(14, 13)},
		"a QoS of 3":             {Base: 12, Recs: []api.Rec{{Offset: 12, Time: 9, QoS: 3}}},
		"a Gone one with a Body": {Base: 12, Recs: []api.Rec{{Offset: 12, Time: 9, Body: "b", Gone: true}}},
		"a Time above MaxTime":   {Base: 12, Recs: []api.Rec{{Offset: 12, Time: 1<<40 + 1}}},
		"more records":           {Base: 12, Recs: row(201)},
	} {
		for i := range len(sample().Segs) + 1 {
			checkForm(t, about, changed(func(x *api.Topic) { x.Segs = slices.Insert(x.Segs, i, g) }))
		}
		checkForm(t, about+", alone", changed(func(x *api.Topic) { x.Segs = []api.Seg{g} }))
	}
	for about, l := range map[string][]api.Seg{
		"none":                   nil,
		"none, with room":        sample().Segs[:0],
		"too many":               make([]api.Seg, 202),
		"too many records":       {{Recs: row(200)}, {Base: 200, Recs: recs(200)}},
		"a Base that falls":      {{Base: 5}, {Base: 4}},
		"a Base that is there":   {{Base: 5, Recs: recs(5)}, {Base: 5}},
		"a Base between Offsets": {{Base: 5, Recs: recs(5, 9)}, {Base: 7}},
		"a Time that falls":      {{Recs: []api.Rec{{Time: 2}}}, {Base: 1, Recs: recs(1)}},
	} {
		checkForm(t, about, changed(func(x *api.Topic) { x.Segs, x.Next, x.Safe = l, 500, 0 }))
	}
	if e := Check(of(boundless(1), make([]api.Seg, 201)...)); e != api.OK {
		t.Errorf("as many segments as may be: %v", e)
	}
}

// P15.1: Next, from 0 to MaxOffset, above all Offsets, not below the last Base; Safe, from 0 to Next.
func TestNextAndSafe(t *testing.T) {
	for _, c := range []struct {
		about string
		segs  []api.Seg
		least int
	}{
		{"no records", []api.Seg{{}}, 0},
		{"a Base", []api.Seg{{Base: 7}}, 7},
		{"the greatest Base", []api.Seg{{Base: 1 << 40}}, 1 << 40},
		{"some Bases", []api.Seg{{Base: 0}, {Base: 3}, {Base: 9}}, 9},
		{"a record of the Offset 0", []api.Seg{{Recs: recs(0)}}, 1},
		{"records", []api.Seg{{Base: 4, Recs: recs(4, 6, 11)}}, 12},
		{"the greatest Offset", []api.Seg{{Recs: recs(0, 1<<40-1)}}, 1 << 40},
		{"the greatest Offset, closed", []api.Seg{{Recs: recs(1<<40 - 1)}, {Base: 1 << 40}}, 1 << 40},
		{"closed records", []api.Seg{{Recs: recs(0, 5)}, {Base: 6}}, 6},
		{"closed records, and a Base far behind", []api.Seg{{Recs: recs(0, 5)}, {Base: 60}}, 60},
		{"closed records, and others far behind", []api.Seg{{Recs: recs(0, 5)}, {Base: 60, Recs: recs(70)}}, 71},
	} {
		for _, next := range append(edges(), c.least-2, c.least-1, c.least, c.least+1, c.least+100) {
			x := api.Topic{Name: "t", Rules: boundless(50), Segs: c.segs, Next: next}
			may := next >= c.least && next <= 1<<40
			if e := Check(x); e != errnoOf(may) {
				t.Errorf("%s: Next %d: %v", c.about, next, e)
			}
			if !may {
				checkForm(t, c.about, x)
			}
			for _, safe := range append(edges(), next-1, next, next/2) {
				x.Safe = safe
				if e := Check(x); e != errnoOf(may && safe >= 0 && safe <= next) {
					t.Errorf("%s: Next %d, Safe %d: %v", c.about, next, safe, e)
				}
				check(t, x, ask{n: next})
				check(t, x, ask{n: safe})
			}
		}
	}
}

// P15.1: a new topic.
func TestNew(t *testing.T) {
	r := api.Rules{SegBytes: 70, Bytes: 5, Age: 6, Compact: true, Graves: 7}
	x, e := New("a/b", r)
	if want := (api.Topic{Name: "a/b", Rules: r, Segs: []api.Seg{{}}}); !same(x, want) || e != api.OK {
		t.Errorf("%s, %v, want %s", brief(x), e, brief(want))
	}
	if low, e := Low(x); low != 0 || e != api.OK {
		t.Errorf("Low: %d, %v", low, e)
	}
	if all, e := All(x); len(all) != 0 || e != api.OK {
		t.Errorf("All: %s, %v", brief(all), e)
	}
	for _, n := range edges() {
		if r, e := Find(x, n); r != (api.Rec{}) || e != api.ErrNone {
			t.Errorf("Find(%d): %s, %v", n, brief(r), e)
		}
		if r, e := Since(x, n); r != (api.Rec{}) || e != api.ErrNone {
			t.Errorf("Since(%d): %s, %v", n, brief(r), e)
		}
		check(t, x, ask{now: n, n: n})
	}
	for _, s := range []string{"", "a/+"} {
		if x, e := New(s, r); !same(x, api.Topic{}) || e != api.ErrForm {
			t.Errorf("%q: %s, %v", s, brief(x), e)
		}
	}
	if x, e := New("a", api.Rules{}); !same(x, api.Topic{}) || e != api.ErrForm {
		t.Errorf("rules that may not be: %s, %v", brief(x), e)
	}
}

// P15.1: the document's example.
func TestAppendOfTwo(t *testing.T) {
	x, _ := New("t", boundless(1000))
	for i, body := range []string{"one", "two"} {
		longer, offset, e := Append(x, api.Rec{Body: body})
		if offset != i || longer.Next != i+1 || longer.Safe != 0 || e != api.OK {
			t.Errorf("%q: %d, %v, Next %d, Safe %d", body, offset, e, longer.Next, longer.Safe)
		}
		x = longer
	}
	want := []api.Rec{{Offset: 0, Body: "one"}, {Offset: 1, Body: "two"}}
	if all, e := All(x); !sameRecs(all, want) || e != api.OK {
		t.Errorf("All: %s, %v", brief(all), e)
	}
	if want := (api.Topic{Name: "t", Rules: boundless(1000), Segs: []api.Seg{{Recs: want}}, Next: 2}); !same(x, want) {
		t.Errorf("%s, want %s", brief(x), brief(want))
	}
}

// P15.1: a record's Offset does not count, whatever it is.
func TestAppendOffset(t *testing.T) {
	for _, n := range append(edges(), 21, 22, 23, 30, 31) {
		r := api.Rec{Offset: n, Time: 12, Key: "k", Body: "b", QoS: 1}
		x, offset, e := Append(sample(), r)
		want := sample()
		want.Segs[3].Recs = append(want.Segs[3].Recs, api.Rec{Offset: 30, Time: 12, Key: "k", Body: "b", QoS: 1})
		want.Next = 31
		if !same(x, want) || offset != 30 || e != api.OK {
			t.Errorf("Offset %d: %s, %d, %v", n, brief(x), offset, e)
		}
		check(t, sample(), ask{rec: r, n: 30})
	}
}

// P15.1: records that may not be.
func TestAppendForm(t *testing.T) {
	long := strings.Repeat("x", 1024)
	for about, r := range map[string]api.Rec{
		"a Time below 0":         {Time: -1},
		"a Time above MaxTime":   {Time: 1<<40 + 1},
		"a Key too long":         {Time: 12, Key: long + "x"},
		"a Body too long":        {Time: 12, Body: long + "x"},
		"a QoS below 0":          {Time: 12, QoS: -1},
		"a QoS of 3":             {Time: 12, QoS: 3},
		"a Gone one with a Body": {Time: 12, Body: "b", Gone: true},
	} {
		full := of(boundless(1), api.Seg{Recs: row(200)})
		last := of(boundless(1), api.Seg{Base: 1 << 40})
		none := of(boundless(1), api.Seg{})
		many := of(boundless(1), append(make([]api.Seg, 200), api.Seg{Recs: recs(0)})...)
		for _, x := range []api.Topic{sample(), full, last, none, many} {
			for _, n := range []int{0, -1, 1 << 40} {
				r.Offset = n
				if x, offset, e := Append(x, r); !same(x, api.Topic{}) || offset != 0 || e != api.ErrForm {
					t.Errorf("%s: %s, %d, %v", about, brief(x), offset, e)
				}
				check(t, x, ask{rec: r})
			}
		}
	}
	for about, r := range map[string]api.Rec{
		"the greatest Time": {Time: 1 << 40},
		"the longest texts": {Time: 12, Key: long, Body: long, QoS: 2},
		"a tombstone":       {Time: 12, Key: "k", Gone: true},
		"any bytes":         {Time: 12, Key: "\xff", Body: "\x00"},
	} {
		x, offset, e := Append(sample(), r)
		r.Offset = 30
		if offset != 30 || e != api.OK || x.Segs[3].Recs[2] != r {
			t.Errorf("%s: %s, %d, %v", about, brief(x), offset, e)
		}
	}
}

// P15.1: a Time not below the last one's, in whatever segment that is.
func TestAppendTime(t *testing.T) {
	at := func(offset, time int) []api.Rec { return []api.Rec{{Offset: offset, Time: time}} }
	for _, c := range []struct {
		about string
		x     api.Topic
		least int
	}{
		{"none", of(boundless(25), api.Seg{}), 0},
		{"none in any", of(boundless(25), api.Seg{}, api.Seg{Base: 4}), 0},
		{"in the open one", of(boundless(26), api.Seg{Recs: at(0, 7)}), 7},
		{"in the open one, that is filled", of(boundless(25), api.Seg{Recs: at(0, 7)}), 7},
		{"in a closed one", of(boundless(25), api.Seg{Recs: at(0, 7)}, api.Seg{Base: 1}), 7},
		{"in a closed one, far ahead", of(boundless(25), api.Seg{Recs: at(0, 7)}, api.Seg{Base: 1}, api.Seg{Base: 1}, api.Seg{Base: 9}), 7},
		{"in both", of(boundless(26), api.Seg{Recs: at(0, 7)}, api.Seg{Base: 1, Recs: at(1, 11)}), 11},
		{"the greatest", of(boundless(26), api.Seg{Recs: at(0, 1<<40)}), 1 << 40},
	} {
		for _, time := range append(edges(), c.least-1, c.least, c.least+1) {
			may := time >= c.least && time <= 1<<40
			if _, _, e := Append(c.x, api.Rec{Time: time}); e != errnoOf(may) {
				t.Errorf("%s: Time %d: %v", c.about, time, e)
			}
			check(t, c.x, ask{rec: api.Rec{Time: time}, n: c.x.Safe})
		}
	}
	full := of(boundless(1), api.Seg{Recs: row(200)})
	full.Segs[0].Recs[199].Time = 3
	if _, _, e := Append(full, api.Rec{Time: 2}); e != api.ErrForm {
		t.Errorf("a Time that falls, where there is no room: %v", e)
	}
	if _, _, e := Append(full, api.Rec{Time: 3}); e != api.ErrFull {
		t.Errorf("where there is no room: %v", e)
	}
}

// P15.1: where there is no room: no offset, no record, no segment more.
func TestAppendFull(t *testing.T) {
	empty := func(n int) []api.Seg { return make([]api.Seg, n) }
	one := api.Seg{Recs: recs(0)}
	var single []api.Seg // of one record each
	for i := range 200 {
		single = append(single, api.Seg{Base: i, Recs: recs(i)})
	}
	nearly := of(boundless(1000), one)
	nearly.Next = 1<<40 - 1
	over := of(boundless(1000), one)
	over.Next = 1 << 40
	for _, c := range []struct {
		about string
		x     api.Topic
		want  api.Errno
	}{
		{"the last offset", nearly, api.OK},
		{"no offset more", over, api.ErrFull},
		{"no offset more, no record", of(boundless(1), api.Seg{Base: 1 << 40}), api.ErrFull},
		{"the last record", of(boundless(1<<15), api.Seg{Recs: row(199)}), api.OK},
		{"the last record, in a new segment", of(boundless(1), api.Seg{Recs: row(199)}), api.OK},
		{"no record more", of(boundless(1<<15), api.Seg{Recs: row(200)}), api.ErrFull},
		{"no record more, in closed ones", of(boundless(1), append(slices.Clone(single), api.Seg{Base: 200})...), api.ErrFull},
		{"the last of many segments", of(boundless(1), single[:199]...), api.OK},
		{"the last of many segments, that is there", of(boundless(1), append(slices.Clone(single[:199]), api.Seg{Base: 200})...), api.OK},
		{"many segments of one record", of(boundless(1), single...), api.ErrFull},
		{"the last segment", of(boundless(25), append(empty(199), one)...), api.OK},
		{"no segment more", of(boundless(25), append(empty(200), one)...), api.ErrFull},
		{"no segment more, and none is due", of(boundless(26), append(empty(200), one)...), api.OK},
		{"no segment more, and the open one has no record", of(boundless(1), empty(201)...), api.OK},
		{"no segment more, and a closed one is filled", of(boundless(1), append([]api.Seg{one}, slices.Repeat([]api.Seg{{Base: 1}}, 200)...)...), api.OK},
	} {
		if e := Check(c.x); e != api.OK {
			t.Fatalf("%s: Check: %v", c.about, e)
		}
		x, offset, e := Append(c.x, api.Rec{Offset: -5, Body: "b"})
		if e != c.want || e == api.OK && (offset != c.x.Next || x.Next != c.x.Next+1) || e != api.OK && (offset != 0 || !same(x, api.Topic{})) {
			t.Errorf("%s: %s, %d, %v", c.about, brief(x), offset, e)
		}
		check(t, c.x, ask{rec: api.Rec{Body: "b"}, offset: 1, n: c.x.Next})
	}
}

// P15.1: a new segment, of Base Next, is there as soon as the open one has SegBytes bytes.
func TestAppendSegBytes(t *testing.T) {
	open := api.Seg{Base: 4, Recs: []api.Rec{{Offset: 4, Body: "12345"}, {Offset: 5, Key: "k"}}} // 30 and 26 bytes
	closed := api.Seg{Recs: []api.Rec{{Offset: 0, Body: strings.Repeat("b", 500)}}}
	for _, c := range []struct {
		segBytes int
		segs     []api.Seg
		want     []int
	}{
		{57, []api.Seg{open}, []int{4}},
		{56, []api.Seg{open}, []int{4, 9}},
		{55, []api.Seg{open}, []int{4, 9}},
		{1, []api.Seg{open}, []int{4, 9}},
		{1 << 15, []api.Seg{open}, []int{4}},
		{1, []api.Seg{{Base: 4}}, []int{4}},
		{57, []api.Seg{closed, open}, []int{0, 4}},
		{56, []api.Seg{closed, open}, []int{0, 4, 9}},
		{1, []api.Seg{closed, {Base: 7}}, []int{0, 7}},
		{1, []api.Seg{closed, {Base: 9}}, []int{0, 9}},
		{1, []api.Seg{{Base: 2, Recs: recs(8)}}, []int{2, 9}},
	} {
		x := of(boundless(c.segBytes), c.segs...)
		x.Next = 9
		longer, offset, e := Append(x, api.Rec{Body: strings.Repeat("b", 1000)})
		if !slices.Equal(bases(longer), c.want) || offset != 9 || e != api.OK {
			t.Errorf("SegBytes %d, %v: %v, %d, %v, want %v", c.segBytes, bases(x), bases(longer), offset, e, c.want)
		}
		last := longer.Segs[len(longer.Segs)-1].Recs
		if last[len(last)-1].Offset != 9 {
			t.Errorf("SegBytes %d, %v: the record is not in the open segment: %s", c.segBytes, bases(x), brief(longer))
		}
		check(t, x, ask{rec: api.Rec{Body: "b"}, n: x.Safe})
	}
	x, _ := New("t", boundless(60))
	for range 10 {
		x, _, _ = Append(x, api.Rec{}) // three have more than 60 bytes
	}
	if !slices.Equal(bases(x), []int{0, 3, 6, 9}) {
		t.Errorf("ten of 25 bytes: %v", bases(x))
	}
}

// P15.2: Safe is Next, and nothing else is another one.
func TestSync(t *testing.T) {
	for _, safe := range []int{0, 1, 10, 29, 30} {
		x := changed(func(x *api.Topic) { x.Safe = safe })
		want := changed(func(x *api.Topic) { x.Safe = 30 })
		if synced, e := Sync(x); !same(synced, want) || e != api.OK {
			t.Errorf("Safe %d: %s, %v", safe, brief(synced), e)
		}
		check(t, x, ask{n: safe})
	}
}

// P15.2: Low and All, of the sample and of its ends.
func TestLowAndAll(t *testing.T) {
	for i, low := range []int{2, 8, 9, 20} {
		x := changed(func(x *api.Topic) { x.Segs = x.Segs[i:] })
		if n, e := Low(x); n != low || e != api.OK {
			t.Errorf("from segment %d on: Low: %d, %v", i, n, e)
		}
		var want []api.Rec
		for _, r := range spread(sample().Segs) {
			if r.seg >= i {
				want = append(want, r.Rec)
			}
		}
		if all, e := All(x); !sameRecs(all, want) || e != api.OK {
			t.Errorf("from segment %d on: All: %s, %v", i, brief(all), e)
		}
		check(t, x, ask{n: 15})
	}
	if n, e := Low(of(boundless(1), api.Seg{Base: 1 << 40})); n != 1<<40 || e != api.OK {
		t.Errorf("the greatest Base: %d, %v", n, e)
	}
}

// P15.2: the first record that is far enough, in whatever segment it is.
func TestFindAndSince(t *testing.T) {
	for offset, want := range map[int]int{math.MinInt: 3, -1: 3, 0: 3, 2: 3, 3: 3, 4: 4, 5: 6, 6: 6, 7: 9, 8: 9, 9: 9, 10: 11, 11: 11, 12: 21, 20: 21, 21: 21, 22: 22} {
		if r, e := Find(sample(), offset); r.Offset != want || e != api.OK {
			t.Errorf("Find(%d): %s, %v", offset, brief(r), e)
		}
	}
	for time, want := range map[int]int{math.MinInt: 3, -1: 3, 0: 3, 5: 3, 6: 6, 7: 9, 8: 9, 9: 21, 10: 21, 11: 22, 12: 22} {
		if r, e := Since(sample(), time); r.Offset != want || e != api.OK {
			t.Errorf("Since(%d): %s, %v", time, brief(r), e)
		}
	}
	for _, n := range []int{23, 29, 30, 31, 1 << 40, math.MaxInt} {
		if r, e := Find(sample(), n); r != (api.Rec{}) || e != api.ErrNone {
			t.Errorf("Find(%d): %s, %v", n, brief(r), e)
		}
	}
	for _, n := range []int{13, 30, 1 << 40, math.MaxInt} {
		if r, e := Since(sample(), n); r != (api.Rec{}) || e != api.ErrNone {
			t.Errorf("Since(%d): %s, %v", n, brief(r), e)
		}
	}
	none := changed(func(x *api.Topic) { x.Segs[3].Recs = nil })
	for n := range 40 {
		check(t, sample(), ask{offset: n, time: n, n: n})
		check(t, none, ask{offset: n, time: n, n: n})
	}
}

// P15.2: Keep leaves what keep.Keep leaves, and nothing else is another one.
func TestKeep(t *testing.T) {
	for _, c := range []struct {
		bytes, age, now int
		want            []int
	}{
		{-1, -1, 1 << 40, []int{2, 8, 9, 20}},
		{0, -1, 0, []int{20}},
		{442, -1, 0, []int{2, 8, 9, 20}},
		{441, -1, 0, []int{8, 9, 20}},
		{-1, 0, 6, []int{2, 8, 9, 20}},
		{-1, 0, 7, []int{9, 20}},
		{-1, 0, 9, []int{20}},
		{-1, 5, 11, []int{2, 8, 9, 20}},
		{-1, 5, 12, []int{9, 20}},
		{-1, 5, 14, []int{20}},
		{-1, 0, 1 << 40, []int{20}},
	} {
		x := changed(func(x *api.Topic) { x.Rules.Bytes, x.Rules.Age = c.bytes, c.age })
		left, e := Keep(x, c.now)
		if !slices.Equal(bases(left), c.want) || left.Next != 30 || left.Safe != 10 || left.Name != "a/b" || left.Rules != x.Rules || e != api.OK {
			t.Errorf("%+v: %s, %v", c, brief(left), e)
		}
		check(t, x, ask{now: c.now, n: 10})
	}
}

// P15.2: Fold leaves what fold.Fold leaves, and nothing else is another one.
func TestFold(t *testing.T) {
	for _, c := range []struct {
		compact bool
		now     int
		want    []int
		bases   []int
	}{
		{false, 1 << 40, []int{3, 4, 6, 9, 11, 21, 22}, []int{2, 8, 9, 20}},
		{true, 0, []int{4, 6, 9, 11, 21, 22}, []int{2, 9, 20}},
		{true, 10, []int{4, 6, 9, 11, 21, 22}, []int{2, 9, 20}},
		{true, 11, []int{4, 6, 11, 21, 22}, []int{2, 9, 20}},
		{true, 1 << 40, []int{4, 6, 11, 21, 22}, []int{2, 9, 20}},
	} {
		x := changed(func(x *api.Topic) { x.Rules.Compact = c.compact })
		left, e := Fold(x, c.now)
		if !slices.Equal(offsets(left), c.want) || !slices.Equal(bases(left), c.bases) || left.Next != 30 || left.Safe != 10 || left.Name != "a/b" || left.Rules != x.Rules || e != api.OK {
			t.Errorf("%+v: %s, %v", c, brief(left), e)
		}
		check(t, x, ask{now: c.now, n: 10})
	}
}

// P15.2: a time from 0 to MaxTime, also where nothing can go.
func TestNow(t *testing.T) {
	for _, now := range edges() {
		want := errnoOf(now >= 0 && now <= 1<<40)
		for _, x := range []api.Topic{
			sample(),
			changed(func(x *api.Topic) { x.Rules = api.Rules{SegBytes: 1, Bytes: 400, Age: 2, Compact: true} }),
			of(boundless(1), api.Seg{}),
		} {
			if _, e := Keep(x, now); e != want {
				t.Errorf("Keep at %d: %v", now, e)
			}
			if _, e := Fold(x, now); e != want {
				t.Errorf("Fold at %d: %v", now, e)
			}
			check(t, x, ask{now: now, n: x.Safe})
		}
	}
}

// P15.3: what may be left of the sample, and of it once all that was safe is gone.
func TestCut(t *testing.T) {
	for _, c := range []struct {
		n       int
		offsets []int
		bases   []int
	}{
		{10, []int{3, 4, 6, 9}, []int{2, 8, 9}},
		{11, []int{3, 4, 6, 9}, []int{2, 8, 9}},
		{12, []int{3, 4, 6, 9, 11}, []int{2, 8, 9}},
		{19, []int{3, 4, 6, 9, 11}, []int{2, 8, 9}},
		{20, []int{3, 4, 6, 9, 11}, []int{2, 8, 9, 20}},
		{21, []int{3, 4, 6, 9, 11}, []int{2, 8, 9, 20}},
		{22, []int{3, 4, 6, 9, 11, 21}, []int{2, 8, 9, 20}},
		{23, []int{3, 4, 6, 9, 11, 21, 22}, []int{2, 8, 9, 20}},
		{30, []int{3, 4, 6, 9, 11, 21, 22}, []int{2, 8, 9, 20}},
	} {
		x, e := Cut(sample(), c.n)
		if !slices.Equal(offsets(x), c.offsets) || !slices.Equal(bases(x), c.bases) || x.Next != c.n || x.Safe != 10 || e != api.OK {
			t.Errorf("at %d: %s, %v", c.n, brief(x), e)
		}
	}
	for safe := range 31 {
		for n := -2; n < 33; n++ {
			for i := range sample().Segs {
				check(t, changed(func(x *api.Topic) { x.Safe, x.Segs = safe, x.Segs[i:] }), ask{n: n})
				check(t, changed(func(x *api.Topic) { x.Safe, x.Segs[i].Recs = safe, nil }), ask{n: n})
			}
		}
	}
	for _, n := range append(edges(), 9, 31) {
		want := errnoOf(n >= 10 && n <= 30)
		if x, e := Cut(sample(), n); e != want || e != api.OK && !same(x, api.Topic{}) {
			t.Errorf("at %d: %s, %v", n, brief(x), e)
		}
	}
}

// P15.3: where all segments go, there is one of that offset; one whose Base it is stays, emptied or not.
func TestCutOfAll(t *testing.T) {
	for _, c := range []struct {
		about string
		segs  []api.Seg
		n     int
		want  []api.Seg
	}{
		{"below all Bases", []api.Seg{{Base: 7, Recs: recs(7)}, {Base: 9, Recs: recs(9)}}, 6, []api.Seg{{Base: 6}}},
		{"at 0", []api.Seg{{Base: 7, Recs: recs(7)}}, 0, []api.Seg{{}}},
		{"below the Base of one without records", []api.Seg{{Base: 7}}, 3, []api.Seg{{Base: 3}}},
		{"at the first Base", []api.Seg{{Base: 7, Recs: recs(7)}, {Base: 9, Recs: recs(9)}}, 7, []api.Seg{{Base: 7}}},
		{"at the second Base", []api.Seg{{Base: 7, Recs: recs(7)}, {Base: 9, Recs: recs(9)}}, 9, []api.Seg{{Base: 7, Recs: recs(7)}, {Base: 9}}},
		{"ahead of the second Base", []api.Seg{{Base: 7, Recs: recs(7)}, {Base: 9, Recs: recs(9)}}, 8, []api.Seg{{Base: 7, Recs: recs(7)}}},
		{"at one Base of many", []api.Seg{{Base: 4}, {Base: 4}, {Base: 4, Recs: recs(4, 5)}, {Base: 6}}, 4, []api.Seg{{Base: 4}, {Base: 4}, {Base: 4}}},
		{"at a new one", []api.Seg{{}}, 0, []api.Seg{{}}},
	} {
		x := of(boundless(1), c.segs...)
		x.Safe = 0
		left, e := Cut(x, c.n)
		if want := (api.Topic{Name: "t", Rules: boundless(1), Segs: c.want, Next: c.n}); !same(left, want) || e != api.OK {
			t.Errorf("%s: %s, %v, want %s", c.about, brief(left), e, brief(want))
		}
		check(t, x, ask{n: c.n})
	}
}

// P15.3: what was cut is gone: the next record has the offset of the cut.
func TestAppendBehindCut(t *testing.T) {
	for n := 10; n <= 30; n++ {
		x, _ := Cut(sample(), n)
		if _, offset, e := Append(x, api.Rec{Time: 12}); offset != n || e != api.OK {
			t.Errorf("at %d: %d, %v", n, offset, e)
		}
		if again, e := Cut(x, n); !same(again, x) || e != api.OK {
			t.Errorf("at %d, done again: %s, %v", n, brief(again), e)
		}
	}
}

// step does one thing to a topic, and says the offset that it gave, or -1.
func step(r *rand.Rand, x api.Topic, now int) (api.Topic, int) {
	var e api.Errno
	offset, y := -1, x
	switch r.Intn(8) {
	case 0:
		y, e = Keep(x, now)
	case 1:
		y, e = Fold(x, now)
	case 2:
		y, e = Sync(x)
	default:
		key := strings.Repeat("k", r.Intn(4))
		y, offset, e = Append(x, api.Rec{Offset: r.Intn(1000) - 500, Time: now, Key: key, QoS: r.Intn(3), Gone: r.Intn(4) == 0})
	}
	if e != api.OK {
		return x, -1
	}
	return y, offset
}

// randomRules says rules of all kinds.
func randomRules(r *rand.Rand) api.Rules {
	return api.Rules{SegBytes: 1 + r.Intn(120), Bytes: r.Intn(400) - 1, Age: r.Intn(12) - 1, Compact: r.Intn(2) == 0, Graves: r.Intn(10)}
}

// P15.4: whatever is done to a topic, its offsets are given once, and rise.
func TestOffsets(t *testing.T) {
	r := rand.New(rand.NewSource(154))
	for range 60 {
		x, e := New("t", randomRules(r))
		if e != api.OK {
			t.Fatalf("New: %v", e)
		}
		next, now := 0, 0
		for range 400 {
			y, offset := step(r, x, now)
			if offset >= 0 {
				if offset != next {
					t.Fatalf("the offset %d was given, %d was the next one, of %s", offset, next, brief(x))
				}
				next++
			}
			if y.Next != next || y.Safe < x.Safe || Check(y) != api.OK || !slices.IsSorted(offsets(y)) {
				t.Fatalf("%s came of %s", brief(y), brief(x))
			}
			x, now = y, now+r.Intn(2)
		}
	}
}

// P15.4: what is left after a cut, wherever it is, has what was safe, and gives no offset of that again.
func TestOffsetsBehindCut(t *testing.T) {
	r := rand.New(rand.NewSource(155))
	for range 300 {
		x, _ := New("t", boundless(1+r.Intn(200)))
		safe, now := 0, 0
		for range r.Intn(60) {
			switch r.Intn(12) {
			case 0:
				x, _ = Sync(x)
				safe = x.Next
			case 1:
				x, _ = Cut(x, safe+r.Intn(x.Next-safe+1))
			default:
				longer, offset, e := Append(x, api.Rec{Time: now})
				if offset < safe || offset != x.Next || e != api.OK {
					t.Fatalf("the offset %d was given, all below %d is safe: %v", offset, safe, e)
				}
				x, now = longer, now+r.Intn(3)
			}
			if l := offsets(x); len(l) != x.Next || x.Safe != safe || x.Next < safe {
				t.Fatalf("%s, all below %d is safe", brief(x), safe)
			}
		}
	}
}

// randomTopic says a topic that was made by calls, or of which a number is another one.
func randomTopic(r *rand.Rand) api.Topic {
	x, _ := New([]string{"t", "$t/#", "a/b"}[r.Intn(3)], randomRules(r))
	now := 0
	for range r.Intn(30) {
		x, _ = step(r, x, now)
		now += r.Intn(3)
	}
	switch r.Intn(12) {
	case 0:
		x.Next += r.Intn(9) - 4
	case 1:
		x.Safe += r.Intn(40) - 20
	case 2:
		x.Segs[r.Intn(len(x.Segs))].Base += r.Intn(5) - 2
	case 3:
		x.Segs = x.Segs[:r.Intn(len(x.Segs)+1)]
	case 4:
		x.Segs = append(x.Segs, api.Seg{Base: x.Next}, api.Seg{Base: x.Next})
	}
	return x
}

// P15.1 to P15.3: topics and what is asked of them, of many kinds.
func TestRuns(t *testing.T) {
	r := rand.New(rand.NewSource(15))
	for range 3000 {
		x := randomTopic(r)
		for range 4 {
			check(t, x, ask{
				rec:    api.Rec{Offset: r.Intn(9) - 4, Time: r.Intn(40), QoS: r.Intn(30) % 4, Body: strings.Repeat("b", r.Intn(3)), Gone: r.Intn(9) == 0},
				offset: r.Intn(30) - 1,
				time:   r.Intn(30) - 1,
				now:    r.Intn(50) - 1,
				n:      r.Intn(x.Next + 6),
			})
		}
	}
}

// isOneText says whether two texts have their bytes in one place.
func isOneText(a, b string) bool {
	return a != "" && b != "" && unsafe.StringData(a) == unsafe.StringData(b)
}

// checkTexts holds that no text of records that were told has its bytes where one that was handed in has them.
func checkTexts(t *testing.T, call string, given, told []api.Rec) {
	t.Helper()
	for _, x := range told {
		for _, y := range given {
			if isOneText(x.Key, y.Key) || isOneText(x.Body, y.Body) {
				t.Errorf("%s: Offset %d: a text's bytes are kept", call, x.Offset)
			}
		}
	}
}

// calls says all calls that tell a topic, of one that they are handed.
func calls(r api.Rec) map[string]func(api.Topic) (api.Topic, api.Errno) {
	return map[string]func(api.Topic) (api.Topic, api.Errno){
		"Append": func(x api.Topic) (api.Topic, api.Errno) {
			y, _, e := Append(x, r)
			return y, e
		},
		"Append, in a new segment": func(x api.Topic) (api.Topic, api.Errno) {
			x.Rules.SegBytes = 1
			y, _, e := Append(x, r)
			return y, e
		},
		"Sync":           Sync,
		"Keep":           func(x api.Topic) (api.Topic, api.Errno) { return Keep(x, 12) },
		"Fold":           func(x api.Topic) (api.Topic, api.Errno) { return Fold(x, 12) },
		"Cut":            func(x api.Topic) (api.Topic, api.Errno) { return Cut(x, 22) },
		"Cut of nothing": func(x api.Topic) (api.Topic, api.Errno) { return Cut(x, 30) },
		"Cut of all": func(x api.Topic) (api.Topic, api.Errno) {
			x.Safe, x.Segs = 0, x.Segs[3:]
			return Cut(x, 1)
		},
	}
}

// R2: what is told is one's own, spare room too.
func TestNothingShared(t *testing.T) {
	room := append(sample().Segs, api.Seg{Base: 777})
	x := changed(func(x *api.Topic) { x.Segs = room[:4] })
	r := api.Rec{Time: 12, Key: strings.Repeat("k", 3), Body: strings.Repeat("b", 3)}
	given := append(recsIn(x), r)
	for call, f := range calls(r) {
		one, e := f(x)
		two, _ := f(x)
		if e != api.OK {
			t.Fatalf("%s: %v", call, e)
		}
		want := deep(two)
		checkTexts(t, call, given, recsIn(two))
		if isOneText(two.Name, x.Name) {
			t.Errorf("%s: the name's bytes are kept", call)
		}
		for i := range one.Segs {
			one.Segs[i].Recs = append(one.Segs[i].Recs, api.Rec{Key: "behind"})
			if rest := (api.Topic{Segs: one.Segs[i+1:]}); !same(rest, api.Topic{Segs: want.Segs[i+1:]}) {
				t.Errorf("%s: segments of one answer are shared, from %d on: %s", call, i, brief(one))
			}
		}
		scribble(api.Topic{Segs: two.Segs[len(two.Segs):cap(two.Segs)]})
		if !same(two, want) {
			t.Errorf("%s: what is told stands in its own spare room: %s", call, brief(two))
		}
		scribble(one)
		if !same(two, want) {
			t.Errorf("%s: what is told twice is shared: %s", call, brief(two))
		}
	}
	all, _ := All(x)
	again, _ := All(x)
	found, _ := Find(x, 11)
	since, _ := Since(x, 12)
	checkTexts(t, "All, Find, Since", given, append(slices.Clone(again), found, since))
	scribbleRecs(append(all, api.Rec{Key: "behind"}))
	scribbleRecs(all)
	if !sameRecs(again, recsIn(x)) {
		t.Errorf("All: what is told twice is shared: %s", brief(again))
	}
	if want := append(sample().Segs, api.Seg{Base: 777}); !same(api.Topic{Segs: room}, api.Topic{Segs: want}) {
		t.Errorf("what was handed in is changed: %s", brief(room))
	}
}

// recsIn says all records of a topic.
func recsIn(x api.Topic) []api.Rec {
	var l []api.Rec
	for _, r := range spread(x.Segs) {
		l = append(l, r.Rec)
	}
	return l
}

// R2: the texts of a new topic are its own.
func TestNameOfNew(t *testing.T) {
	s := strings.Repeat("t", 3)
	for _, s := range []string{s, "$" + s} {
		if x, e := New(s, boundless(1)); isOneText(x.Name, s) || x.Name != s || e != api.OK {
			t.Errorf("%q: the name's bytes are kept: %v", s, e)
		}
	}
}

// P15.1 to P15.3, of the records that stand in any bytes, parted anywhere.
func FuzzTopic(f *testing.F) {
	all := ""
	for _, x := range recsIn(sample()) {
		s, _ := rec.Bytes(x)
		all += s
	}
	f.Add("a/b", all, "\x03\x00\x02", 100, 400, 5, 30, 10, "", 12, 12, 20)
	f.Add("$a/+#", all, "\x01\x01\x01", 1, -1, -1, 1<<40, 0, "body", 1<<40, 1<<40, 4)
	f.Add("", "", "", 0, 0, 0, 0, 0, "", 0, 0, 0)
	f.Fuzz(func(t *testing.T, name, s, cuts string, segBytes, bytes, age, next, safe int, body string, time, now, n int) {
		recs, _, _ := rec.Scan(s)
		recs = recs[:min(len(recs), 300)]
		x := api.Topic{Name: name, Next: next, Safe: safe}
		x.Rules = api.Rules{SegBytes: segBytes, Bytes: bytes, Age: age, Compact: n%2 == 0}
		base := 0
		for i := range min(len(cuts), 300) {
			k := min(int(cuts[i]), len(recs))
			x.Segs = append(x.Segs, api.Seg{Base: base, Recs: recs[:k]})
			if k > 0 {
				base = recs[k-1].Offset + 1
			}
			recs = recs[k:]
		}
		x.Segs = append(x.Segs, api.Seg{Base: base, Recs: recs})
		check(t, x, ask{rec: api.Rec{Offset: n, Time: time, Body: body}, offset: n, time: time, now: now, n: n})
	})
}
