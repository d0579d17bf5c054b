package index

import (
	"fmt"
	"reflect"
	"slices"
	"strconv"
	"testing"

	"fairway/api"
	"fairway/rec"
	"fairway/seg"
)

// The model of chapter 12 goes by a segment's bytes: a mark's At is the length of what stands ahead of it, and what is looked for is read record by record from there on.

// wantMarks says the marks of a segment, and whether it may be.
func wantMarks(g api.Seg) ([]api.Mark, api.Errno) {
	if seg.Check(g) != api.OK {
		return nil, api.ErrForm
	}
	var l []api.Mark
	for n := 0; n < len(g.Recs); n += 4 {
		ahead, _ := seg.Text(api.Seg{Base: g.Base, Recs: g.Recs[:n]})
		l = append(l, api.Mark{Offset: g.Recs[n].Offset, At: len(ahead)})
	}
	return l, api.OK
}

// wantCheck says whether marks are those of a segment.
func wantCheck(g api.Seg, l []api.Mark) (bool, api.Errno) {
	own, e := wantMarks(g)
	if e != api.OK || len(l) != len(own) {
		return false, e
	}
	for i := range own {
		if l[i].Offset != own[i].Offset || l[i].At != own[i].At {
			return false, api.OK
		}
	}
	return true, api.OK
}

// wantFrom says the mark for an offset.
func wantFrom(l []api.Mark, offset int) (api.Mark, api.Errno) {
	var offsets, ats []int
	for _, m := range l {
		offsets, ats = append(offsets, m.Offset), append(ats, m.At)
	}
	rising := slices.Compact(slices.Sorted(slices.Values(offsets)))
	if !slices.Equal(rising, offsets) || !slices.IsSorted(ats) {
		return api.Mark{}, api.ErrForm
	}
	for _, m := range slices.Backward(l) {
		if m.Offset <= offset {
			return m, api.OK
		}
	}
	if len(l) == 0 {
		return api.Mark{}, api.OK
	}
	return l[0], api.OK
}

// wantLook says what is read from the mark on.
func wantLook(g api.Seg, l []api.Mark, offset int) (api.Rec, int, api.Errno) {
	if isOwn, _ := wantCheck(g, l); !isOwn {
		return api.Rec{}, 0, api.ErrForm
	}
	m, _ := wantFrom(l, offset)
	s, _ := seg.Text(g)
	rest, _, _ := rec.Scan(s[m.At:])
	for passed, r := range rest {
		if r.Offset >= offset {
			return r, passed, api.OK
		}
	}
	return api.Rec{}, 0, api.ErrNone
}

// deep says a copy of a segment, in which an empty list is nil.
func deep(g api.Seg) api.Seg {
	return api.Seg{Base: g.Base, Recs: append([]api.Rec(nil), g.Recs...)}
}

// brief says a value in a line that is not too long.
func brief(v any) string {
	s := fmt.Sprintf("%+v", v)
	return strconv.Quote(s[:min(len(s), 400)])
}

// scribble writes over marks that were told, and behind them as far as there is room.
func scribble(l []api.Mark) {
	l = l[:cap(l)]
	for i := range l {
		l[i] = api.Mark{Offset: -7, At: -7}
	}
}

// checkMarks holds P12.1 for a segment, with its own marks.
func checkMarks(t *testing.T, g api.Seg) {
	t.Helper()
	given := deep(g)
	want, wantE := wantMarks(g)
	l, e := Marks(g)
	if !slices.Equal(l, want) || e != wantE {
		t.Fatalf("Marks(%s): %s, %v, want %s, %v", brief(g), brief(l), e, brief(want), wantE)
	}
	if isOwn, e := Check(g, l); isOwn != (wantE == api.OK) || e != wantE {
		t.Fatalf("Check(%s, its marks): %v, %v, want %v", brief(g), isOwn, e, wantE)
	}
	scribble(l)
	if again, _ := Marks(g); !slices.Equal(again, want) {
		t.Fatalf("Marks(%s) tells the same memory twice: %s", brief(g), brief(again))
	}
	if !reflect.DeepEqual(deep(g), given) {
		t.Fatalf("what was handed in is changed: %s, was %s", brief(g), brief(given))
	}
}

// checkFrom holds P12.2's From for marks and an offset.
func checkFrom(t *testing.T, l []api.Mark, offset int) {
	t.Helper()
	given := slices.Clone(l)
	m, e := From(l, offset)
	if want, wantE := wantFrom(l, offset); m != want || e != wantE {
		t.Fatalf("From(%s, %d): %v, %v, want %v, %v", brief(l), offset, m, e, want, wantE)
	}
	if !slices.Equal(l, given) {
		t.Fatalf("what was handed in is changed: %s, was %s", brief(l), brief(given))
	}
}

// checkLook holds P12.1's Check, P12.2 and P12.3 for a segment, any marks and an offset.
func checkLook(t *testing.T, g api.Seg, l []api.Mark, offset int) {
	t.Helper()
	given, givenL := deep(g), slices.Clone(l)
	isOwn, e := Check(g, l)
	if want, wantE := wantCheck(g, l); isOwn != want || e != wantE {
		t.Fatalf("Check(%s, %s): %v, %v, want %v, %v", brief(g), brief(l), isOwn, e, want, wantE)
	}
	checkFrom(t, l, offset)
	r, passed, e := Look(g, l, offset)
	want, wantPassed, wantE := wantLook(g, l, offset)
	if r != want || passed != wantPassed || e != wantE {
		t.Fatalf("Look(%s, %s, %d): %s, %d, %v, want %s, %d, %v", brief(g), brief(l), offset, brief(r), passed, e, brief(want), wantPassed, wantE)
	}
	if isOwn {
		if found, foundE := seg.Find(g, offset); r != found || e != foundE {
			t.Fatalf("Look(%s, its marks, %d): %s, %v, and Find: %s, %v", brief(g), offset, brief(r), e, brief(found), foundE)
		}
	}
	if passed < 0 || passed > 4 {
		t.Fatalf("Look(%s, %s, %d): %d passed", brief(g), brief(l), offset, passed)
	}
	if !reflect.DeepEqual(deep(g), given) || !slices.Equal(l, givenL) {
		t.Fatalf("what was handed in is changed: %s, %s, was %s, %s", brief(g), brief(l), brief(given), brief(givenL))
	}
}
