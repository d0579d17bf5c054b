package seg

import (
	"fmt"
	"reflect"
	"slices"
	"strconv"
	"testing"

	"fairway/api"
	"fairway/rec"
)

// The model of chapter 11 looks at a segment's records all together: sorted, they are as they were; it parses by cutting down what rec.Scan tells until that may be.

// wantMayBe says whether a segment may be.
func wantMayBe(g api.Seg) bool {
	if g.Base < 0 || g.Base > 1<<40 || len(g.Recs) > 200 {
		return false
	}
	var offsets, times []int
	for _, r := range g.Recs {
		if rec.Check(r) != api.OK {
			return false
		}
		offsets, times = append(offsets, r.Offset), append(times, r.Time)
	}
	rising := slices.Compact(slices.Sorted(slices.Values(offsets)))
	return len(offsets) == 0 || offsets[0] >= g.Base && slices.Equal(rising, offsets) && slices.IsSorted(times)
}

// wantForm says the error that comes ahead of all.
func wantForm(g api.Seg) api.Errno {
	if wantMayBe(g) {
		return api.OK
	}
	return api.ErrForm
}

func wantAdd(g api.Seg, r api.Rec) (api.Seg, api.Errno) {
	with := api.Seg{Base: g.Base, Recs: append(slices.Clone(g.Recs), r)}
	if !wantMayBe(g) || !wantMayBe(with) {
		return api.Seg{}, api.ErrForm
	}
	return with, api.OK
}

// laid says the bytes of records, those that may not be left out.
func laid(l ...api.Rec) string {
	all := ""
	for _, r := range l {
		s, _ := rec.Bytes(r)
		all += s
	}
	return all
}

func wantText(g api.Seg) (string, api.Errno) {
	if !wantMayBe(g) {
		return "", api.ErrForm
	}
	return laid(g.Recs...), api.OK
}

func wantParse(base int, s string) (api.Seg, int, api.Errno) {
	if base < 0 || base > 1<<40 {
		return api.Seg{}, 0, api.ErrForm
	}
	l, _, _ := rec.Scan(s)
	l = l[:min(len(l), 201)]
	for !wantMayBe(api.Seg{Base: base, Recs: l}) {
		l = l[:len(l)-1]
	}
	return api.Seg{Base: base, Recs: l}, len(laid(l...)), api.OK
}

// wantFirst says the record of a segment of which a number is not below n, and the number is least.
func wantFirst(g api.Seg, n int, of func(api.Rec) int) (api.Rec, api.Errno) {
	if !wantMayBe(g) {
		return api.Rec{}, api.ErrForm
	}
	best, e := api.Rec{}, api.ErrNone
	for _, r := range slices.Backward(g.Recs) {
		if of(r) >= n {
			best, e = r, api.OK
		}
	}
	return best, e
}

func offsetOf(r api.Rec) int { return r.Offset }
func timeOf(r api.Rec) int   { return r.Time }

// deep says a copy of a segment, in which an empty list is nil.
func deep(g api.Seg) api.Seg {
	return api.Seg{Base: g.Base, Recs: append([]api.Rec(nil), g.Recs...)}
}

func same(a, b api.Seg) bool {
	return reflect.DeepEqual(deep(a), deep(b))
}

// brief says a value in a line that is not too long.
func brief(v any) string {
	s := fmt.Sprintf("%+v", v)
	return strconv.Quote(s[:min(len(s), 400)])
}

// scribble writes over a segment that was told, and behind it as far as there is room.
func scribble(g api.Seg) {
	l := g.Recs[:cap(g.Recs)]
	for i := range l {
		l[i] = api.Rec{Offset: -7, Key: "scribbled"}
	}
}

// checkSeg holds P11.1 for one segment, and of P11.3 that what is written is parsed.
func checkSeg(t *testing.T, g api.Seg) {
	t.Helper()
	given := deep(g)
	form := wantForm(g)
	if e := Check(g); e != form {
		t.Fatalf("Check(%s): %v, want %v", brief(g), e, form)
	}
	want, wantE := wantText(g)
	if n, e := Size(g); n != len(want) || e != wantE {
		t.Fatalf("Size(%s): %d, %v, want %d, %v", brief(g), n, e, len(want), wantE)
	}
	s, e := Text(g)
	if s != want || e != wantE {
		t.Fatalf("Text(%s): %.300q, %v, want %.300q, %v", brief(g), s, e, want, wantE)
	}
	if e == api.OK {
		back, k, e := Parse(g.Base, s)
		if !same(back, g) || k != len(s) || e != api.OK {
			t.Fatalf("Parse(Text(%s)): %s, %d, %v", brief(g), brief(back), k, e)
		}
		scribble(back)
	}
	if !same(g, given) {
		t.Fatalf("what was handed in is changed: %s, was %s", brief(g), brief(given))
	}
}

// checkAdd holds P11.1's Add for a segment and a record.
func checkAdd(t *testing.T, g api.Seg, r api.Rec) {
	t.Helper()
	given := deep(g)
	x, e := Add(g, r)
	want, wantE := wantAdd(g, r)
	if !same(x, want) || e != wantE {
		t.Fatalf("Add(%s, %s): %s, %v, want %s, %v", brief(g), brief(r), brief(x), e, brief(want), wantE)
	}
	checkSeg(t, x)
	scribble(x)
	if !same(g, given) {
		t.Fatalf("what was handed in is changed: %s, was %s", brief(g), brief(given))
	}
}

// checkFirst holds P11.2 for a segment and a number.
func checkFirst(t *testing.T, g api.Seg, n int) {
	t.Helper()
	r, e := Find(g, n)
	if want, wantE := wantFirst(g, n, offsetOf); r != want || e != wantE {
		t.Fatalf("Find(%s, %d): %s, %v, want %s, %v", brief(g), n, brief(r), e, brief(want), wantE)
	}
	r, e = Since(g, n)
	if want, wantE := wantFirst(g, n, timeOf); r != want || e != wantE {
		t.Fatalf("Since(%s, %d): %s, %v, want %s, %v", brief(g), n, brief(r), e, brief(want), wantE)
	}
}

// checkParse holds P11.1's Parse of any bytes, and of P11.3 that what is parsed was written so.
func checkParse(t *testing.T, base int, s string) {
	t.Helper()
	g, k, e := Parse(base, s)
	want, size, wantE := wantParse(base, s)
	if !same(g, want) || k != size || e != wantE {
		t.Fatalf("Parse(%d, %.300q): %s, %d, %v, want %s, %d, %v", base, s, brief(g), k, e, brief(want), size, wantE)
	}
	if e != api.OK {
		return
	}
	if back, e := Text(g); back != s[:k] || e != api.OK {
		t.Fatalf("Text(Parse(%d, %.300q)): %.300q, %v", base, s, back, e)
	}
	scribble(g)
}
