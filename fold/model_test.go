package fold

import (
	"bytes"
	"fmt"
	"reflect"
	"sort"
	"strconv"
	"testing"

	"fairway/api"
	"fairway/keep"
)

// The model of chapter 14 lays all records one behind the other, with the number of the segment that each one stands in, and holds each record against all that come later.

// placed is a record with the number of its segment.
type placed struct {
	api.Rec
	seg int
}

// spread says all records of segments.
func spread(l []api.Seg) []placed {
	var all []placed
	for i, g := range l {
		for _, r := range g.Recs {
			all = append(all, placed{r, i})
		}
	}
	return all
}

// hasLater says whether a record behind the one at i has its key.
func hasLater(all []placed, i int) bool {
	for _, x := range all[i+1:] {
		if x.Key == all[i].Key {
			return true
		}
	}
	return false
}

// wantFold says the segments that are left.
func wantFold(l []api.Seg, r api.Rules, now int) ([]api.Seg, api.Errno) {
	if keep.Row(l) != api.OK || keep.Rules(r) != api.OK || now < 0 || now > 1<<40 {
		return nil, api.ErrForm
	}
	if !r.Compact {
		return l, api.OK
	}
	stay := make([][]api.Rec, len(l))
	all := spread(l)
	for i, x := range all {
		old := x.Gone && now-r.Graves > x.Time
		if x.seg == len(l)-1 || !old && (x.Key == "" || !hasLater(all, i)) {
			stay[x.seg] = append(stay[x.seg], x.Rec)
		}
	}
	var left []api.Seg
	for i, recs := range stay {
		if len(recs) > 0 || i == len(l)-1 {
			left = append(left, api.Seg{Base: l[i].Base, Recs: recs})
		}
	}
	return left, api.OK
}

// wantLasts says the last records of all keys.
func wantLasts(l []api.Seg) ([]api.Rec, api.Errno) {
	if keep.Row(l) != api.OK {
		return nil, api.ErrForm
	}
	var lasts []api.Rec
	all := spread(l)
	for i, x := range all {
		if x.Key != "" && !x.Gone && !hasLater(all, i) {
			lasts = append(lasts, x.Rec)
		}
	}
	sort.Slice(lasts, func(i, k int) bool { return bytes.Compare([]byte(lasts[i].Key), []byte(lasts[k].Key)) < 0 })
	return lasts, api.OK
}

// errnoOf says the error of what may be or not.
func errnoOf(mayBe bool) api.Errno {
	if mayBe {
		return api.OK
	}
	return api.ErrForm
}

// deep says a copy of segments, in which an empty list is nil.
func deep(l []api.Seg) []api.Seg {
	var x []api.Seg
	for _, g := range l {
		x = append(x, api.Seg{Base: g.Base, Recs: append([]api.Rec(nil), g.Recs...)})
	}
	return x
}

func same(a, b []api.Seg) bool {
	return reflect.DeepEqual(deep(a), deep(b))
}

// sameRecs says whether records are the same ones, in the same order.
func sameRecs(a, b []api.Rec) bool {
	return same([]api.Seg{{Recs: a}}, []api.Seg{{Recs: b}})
}

// brief says a value in a line that is not too long.
func brief(v any) string {
	s := fmt.Sprintf("%+v", v)
	return strconv.Quote(s[:min(len(s), 600)])
}

// scribbleRecs writes over records that were told, and behind them as far as there is room.
func scribbleRecs(l []api.Rec) {
	l = l[:cap(l)]
	for i := range l {
		l[i] = api.Rec{Offset: -7, Key: "scribbled"}
	}
}

// scribble writes over segments that were told, and behind all of their lists.
func scribble(l []api.Seg) {
	l = l[:cap(l)]
	for i := range l {
		scribbleRecs(l[i].Recs)
		l[i] = api.Seg{Base: -7}
	}
}

// check holds P14.1 and P14.2 for segments, rules and a time.
func check(t *testing.T, l []api.Seg, r api.Rules, now int) {
	t.Helper()
	given := deep(l)
	left, e := Fold(l, r, now)
	if want, wantE := wantFold(l, r, now); !same(left, want) || e != wantE {
		t.Fatalf("Fold(%s, %+v, %d): %s, %v, want %s, %v", brief(l), r, now, brief(left), e, brief(want), wantE)
	}
	lasts, lastsE := Lasts(l)
	if want, wantE := wantLasts(l); !sameRecs(lasts, want) || lastsE != wantE {
		t.Fatalf("Lasts(%s): %s, %v, want %s, %v", brief(l), brief(lasts), lastsE, brief(want), wantE)
	}
	if e == api.OK {
		checkLeft(t, left, lasts, r, now)
	}
	scribble(left)
	scribbleRecs(lasts)
	if !same(l, given) {
		t.Fatalf("what was handed in is changed: %s, was %s", brief(l), brief(given))
	}
}

// checkLeft holds P14.2 for what is left of segments that had these lasts.
func checkLeft(t *testing.T, left []api.Seg, lasts []api.Rec, r api.Rules, now int) {
	t.Helper()
	if e := keep.Row(left); e != api.OK {
		t.Fatalf("%+v, %d: %s is no row", r, now, brief(left))
	}
	if again, e := Lasts(left); !sameRecs(again, lasts) || e != api.OK {
		t.Fatalf("%+v, %d: Lasts of what is left: %s, %v, were %s", r, now, brief(again), e, brief(lasts))
	}
	if again, e := Fold(left, r, now); !same(again, left) || e != api.OK {
		t.Fatalf("%+v, %d: Fold(%s), done again: %s, %v", r, now, brief(left), brief(again), e)
	}
}

// checkForm holds that what is handed in to Fold is ErrForm, and that nothing is told beside it.
func checkForm(t *testing.T, about string, l []api.Seg, r api.Rules, now int) {
	t.Helper()
	for _, compact := range []bool{false, true} {
		r.Compact = compact
		if left, e := Fold(l, r, now); len(left) > 0 || e != api.ErrForm {
			t.Errorf("%s: Fold: %s, %v", about, brief(left), e)
		}
		check(t, l, r, now)
	}
}
