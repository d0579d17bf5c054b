package keep

import (
	"fmt"
	"math"
	"reflect"
	"slices"
	"strconv"
	"strings"
	"testing"

	"fairway/api"
	"fairway/seg"
)

// The model of chapter 13 holds every segment of a row against every other one, and goes by a table: of each number of segments that could go, whether one more does.

// wantRules says whether rules may be.
func wantRules(r api.Rules) bool {
	for _, c := range []struct{ n, least, most int }{
		{r.SegBytes, 1, 32768},
		{r.Bytes, -1, 1073741824},
		{r.Age, -1, 1073741824},
		{r.Graves, 0, 1073741824},
	} {
		if c.n < c.least || c.n > c.most {
			return false
		}
	}
	return true
}

// wantRow says whether segments are in a row.
func wantRow(l []api.Seg) bool {
	if len(l) < 1 || len(l) > 201 {
		return false
	}
	var times []int
	for _, g := range l {
		if seg.Check(g) != api.OK {
			return false
		}
		for _, r := range g.Recs {
			times = append(times, r.Time)
		}
	}
	for i := range l {
		for _, ahead := range l[:i] {
			if l[i].Base < ahead.Base || slices.ContainsFunc(ahead.Recs, func(r api.Rec) bool { return r.Offset >= l[i].Base }) {
				return false
			}
		}
	}
	return slices.IsSorted(times) && len(times) <= 200
}

// wantOld says how many segments go.
func wantOld(l []api.Seg, r api.Rules, now int) (int, api.Errno) {
	if !wantRow(l) || !wantRules(r) || now < 0 || now > 1<<40 {
		return 0, api.ErrForm
	}
	var goes []bool
	var texts []string
	for _, g := range l[:len(l)-1] {
		s, _ := seg.Text(g)
		texts = append(texts, s)
	}
	for n := range texts {
		all := strings.Join(texts[n:], "")
		youngest := math.MinInt32 // of no records: always too old
		for _, x := range l[n].Recs {
			youngest = x.Time
		}
		goes = append(goes, r.Bytes >= 0 && len(all) > r.Bytes || r.Age >= 0 && youngest < now-r.Age)
	}
	return slices.Index(append(goes, false), false), api.OK
}

// wantKeep says the segments that are left.
func wantKeep(l []api.Seg, r api.Rules, now int) ([]api.Seg, api.Errno) {
	n, e := wantOld(l, r, now)
	if e != api.OK {
		return nil, e
	}
	return l[n:], api.OK
}

// errnoOf says the error of what may be or not.
func errnoOf(mayBe bool) api.Errno {
	if mayBe {
		return api.OK
	}
	return api.ErrForm
}

// deep says a copy of segments, in which an empty list is nil.
func deep(l []api.Seg) []api.Seg {
	var x []api.Seg
	for _, g := range l {
		x = append(x, api.Seg{Base: g.Base, Recs: append([]api.Rec(nil), g.Recs...)})
	}
	return x
}

func same(a, b []api.Seg) bool {
	return reflect.DeepEqual(deep(a), deep(b))
}

// brief says a value in a line that is not too long.
func brief(v any) string {
	s := fmt.Sprintf("%+v", v)
	return strconv.Quote(s[:min(len(s), 600)])
}

// scribble writes over segments that were told, and behind all of their lists as far as there is room.
func scribble(l []api.Seg) {
	for _, g := range l[:cap(l)] {
		recs := g.Recs[:cap(g.Recs)]
		for i := range recs {
			recs[i] = api.Rec{Offset: -7, Key: "scribbled"}
		}
	}
	l = l[:cap(l)]
	for i := range l {
		l[i] = api.Seg{Base: -7}
	}
}

// check holds P13.1 and P13.2 for segments, rules and a time.
func check(t *testing.T, l []api.Seg, r api.Rules, now int) {
	t.Helper()
	given := deep(l)
	if e := Rules(r); e != errnoOf(wantRules(r)) {
		t.Fatalf("Rules(%+v): %v", r, e)
	}
	if e := Row(l); e != errnoOf(wantRow(l)) {
		t.Fatalf("Row(%s): %v", brief(l), e)
	}
	n, e := Old(l, r, now)
	if want, wantE := wantOld(l, r, now); n != want || e != wantE {
		t.Fatalf("Old(%s, %+v, %d): %d, %v, want %d, %v", brief(l), r, now, n, e, want, wantE)
	}
	left, e := Keep(l, r, now)
	if want, wantE := wantKeep(l, r, now); !same(left, want) || e != wantE {
		t.Fatalf("Keep(%s, %+v, %d): %s, %v, want %s, %v", brief(l), r, now, brief(left), e, brief(want), wantE)
	}
	if e == api.OK {
		checkLeft(t, l, left, r, now)
	}
	scribble(left)
	if !same(l, given) {
		t.Fatalf("what was handed in is changed: %s, was %s", brief(l), brief(given))
	}
}

// checkLeft holds P13.2 for what is left of segments.
func checkLeft(t *testing.T, l, left []api.Seg, r api.Rules, now int) {
	t.Helper()
	if len(left) == 0 || !same(left[len(left)-1:], l[len(l)-1:]) {
		t.Fatalf("Keep(%s, %+v, %d): the open one went: %s", brief(l), r, now, brief(left))
	}
	if e := Row(left); e != api.OK {
		t.Fatalf("Keep(%s, %+v, %d): %s is no row", brief(l), r, now, brief(left))
	}
	if n, e := Old(left, r, now); n != 0 || e != api.OK {
		t.Fatalf("Keep(%s, %+v, %d), done again: %d more, %v", brief(l), r, now, n, e)
	}
	if again, e := Keep(left, r, now); !same(again, left) || e != api.OK {
		t.Fatalf("Keep(%s, %+v, %d), done again: %s, %v", brief(l), r, now, brief(again), e)
	}
}

// checkForm holds that what is handed in is ErrForm, and that nothing is told beside it.
func checkForm(t *testing.T, about string, l []api.Seg, r api.Rules, now int) {
	t.Helper()
	if n, e := Old(l, r, now); n != 0 || e != api.ErrForm {
		t.Errorf("%s: Old: %d, %v", about, n, e)
	}
	if left, e := Keep(l, r, now); len(left) > 0 || e != api.ErrForm {
		t.Errorf("%s: Keep: %s, %v", about, brief(left), e)
	}
	check(t, l, r, now)
}
