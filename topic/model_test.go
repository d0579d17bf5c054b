package topic

import (
	"fmt"
	"reflect"
	"strconv"
	"testing"

	"fairway/api"
	"fairway/fold"
	"fairway/keep"
	"fairway/name"
	"fairway/rec"
	"fairway/seg"
	"fairway/text"
)

// The model of chapter 15 lays all records one behind the other, with the number of the segment that each one stands in, and holds each number against all of them.

// placed is a record with the number of its segment.
type placed struct {
	api.Rec
	seg int
}

// spread says all records of segments.
func spread(l []api.Seg) []placed {
	var all []placed
	for i, g := range l {
		for _, r := range g.Recs {
			all = append(all, placed{r, i})
		}
	}
	return all
}

// wantName says whether a topic may have a name.
func wantName(s string) bool {
	return name.Topic(s) == api.OK || text.Check(s) == api.OK && s != "" && s[0] == '$'
}

// wantCheck says whether a topic may be.
func wantCheck(t api.Topic) bool {
	if !wantName(t.Name) || keep.Rules(t.Rules) != api.OK || keep.Row(t.Segs) != api.OK {
		return false
	}
	for _, x := range spread(t.Segs) {
		if x.Offset >= t.Next {
			return false
		}
	}
	for _, g := range t.Segs {
		if g.Base > t.Next {
			return false
		}
	}
	return t.Next >= 0 && t.Next <= 1<<40 && t.Safe >= 0 && t.Safe <= t.Next
}

// wantAppend says the topic with a record more, and its offset.
func wantAppend(t api.Topic, r api.Rec) (api.Topic, int, api.Errno) {
	r.Offset = 0
	if !wantCheck(t) || rec.Check(r) != api.OK {
		return api.Topic{}, 0, api.ErrForm
	}
	all := spread(t.Segs)
	for _, x := range all {
		if x.Time > r.Time {
			return api.Topic{}, 0, api.ErrForm
		}
	}
	if t.Next == 1<<40 || len(all) == 200 {
		return api.Topic{}, 0, api.ErrFull
	}
	x := deep(t)
	s, _ := seg.Text(x.Segs[len(x.Segs)-1])
	if s != "" && len(s) >= t.Rules.SegBytes {
		x.Segs = append(x.Segs, api.Seg{Base: t.Next})
	}
	if len(x.Segs) == 202 {
		return api.Topic{}, 0, api.ErrFull
	}
	r.Offset = t.Next
	open := &x.Segs[len(x.Segs)-1]
	open.Recs = append(open.Recs, r)
	x.Next = t.Next + 1
	return x, t.Next, api.OK
}

// wantSync says the topic, all of it safe.
func wantSync(t api.Topic) (api.Topic, api.Errno) {
	if !wantCheck(t) {
		return api.Topic{}, api.ErrForm
	}
	t.Safe = t.Next
	return t, api.OK
}

// wantLow says the first Base.
func wantLow(t api.Topic) (int, api.Errno) {
	if !wantCheck(t) {
		return 0, api.ErrForm
	}
	return t.Segs[0].Base, api.OK
}

// wantAll says all records.
func wantAll(t api.Topic) ([]api.Rec, api.Errno) {
	if !wantCheck(t) {
		return nil, api.ErrForm
	}
	var l []api.Rec
	for _, x := range spread(t.Segs) {
		l = append(l, x.Rec)
	}
	return l, api.OK
}

// wantFirst says the first record that is far enough.
func wantFirst(t api.Topic, isFar func(api.Rec) bool) (api.Rec, api.Errno) {
	if !wantCheck(t) {
		return api.Rec{}, api.ErrForm
	}
	found, e := api.Rec{}, api.ErrNone
	all := spread(t.Segs)
	for i := len(all) - 1; i >= 0; i-- {
		if isFar(all[i].Rec) {
			found, e = all[i].Rec, api.OK
		}
	}
	return found, e
}

// wantLeft says the topic with what a lower layer leaves of its segments.
func wantLeft(t api.Topic, now int, lower func([]api.Seg, api.Rules, int) ([]api.Seg, api.Errno)) (api.Topic, api.Errno) {
	if !wantCheck(t) || now < 0 || now > 1<<40 {
		return api.Topic{}, api.ErrForm
	}
	t.Segs, _ = lower(t.Segs, t.Rules, now)
	return t, api.OK
}

// wantCut says what may be left of a topic.
func wantCut(t api.Topic, n int) (api.Topic, api.Errno) {
	if !wantCheck(t) || n < t.Safe || n > t.Next {
		return api.Topic{}, api.ErrForm
	}
	segs := make([]api.Seg, len(t.Segs))
	for _, x := range spread(t.Segs) {
		if x.Offset < n {
			segs[x.seg].Recs = append(segs[x.seg].Recs, x.Rec)
		}
	}
	few := 0
	for i, g := range t.Segs {
		segs[i].Base = g.Base
		if g.Base <= n {
			few = i + 1
		}
	}
	t.Segs, t.Next = segs[:few], n
	if few == 0 {
		t.Segs = []api.Seg{{Base: n}}
	}
	return t, api.OK
}

// errnoOf says the error of what may be or not.
func errnoOf(mayBe bool) api.Errno {
	if mayBe {
		return api.OK
	}
	return api.ErrForm
}

// deep says a copy of a topic, in which an empty list is nil.
func deep(t api.Topic) api.Topic {
	segs := t.Segs
	t.Segs = nil
	for _, g := range segs {
		t.Segs = append(t.Segs, api.Seg{Base: g.Base, Recs: append([]api.Rec(nil), g.Recs...)})
	}
	return t
}

func same(a, b api.Topic) bool {
	return reflect.DeepEqual(deep(a), deep(b))
}

// sameRecs says whether records are the same ones, in the same order.
func sameRecs(a, b []api.Rec) bool {
	return reflect.DeepEqual(append([]api.Rec(nil), a...), append([]api.Rec(nil), b...))
}

// brief says a value in a line that is not too long.
func brief(v any) string {
	s := fmt.Sprintf("%+v", v)
	return strconv.Quote(s[:min(len(s), 600)])
}

// scribbleRecs writes over records that were told, and behind them as far as there is room.
func scribbleRecs(l []api.Rec) {
	l = l[:cap(l)]
	for i := range l {
		l[i] = api.Rec{Offset: -7, Key: "scribbled"}
	}
}

// scribble writes over the segments of a topic that was told, and behind all of its lists.
func scribble(t api.Topic) {
	l := t.Segs[:cap(t.Segs)]
	for i := range l {
		scribbleRecs(l[i].Recs)
		l[i] = api.Seg{Base: -7}
	}
}

// ask is what the calls are handed beside a topic.
type ask struct {
	rec          api.Rec
	offset, time int // of Find, of Since
	now          int // of Keep and of Fold
	n            int // of Cut
}

// checkTopic holds what a call that tells a topic has told, and that it may be.
func checkTopic(t *testing.T, call string, given, x api.Topic, e api.Errno, want api.Topic, wantE api.Errno) {
	t.Helper()
	if !same(x, want) || e != wantE {
		t.Fatalf("%s of %s: %s, %v, want %s, %v", call, brief(given), brief(x), e, brief(want), wantE)
	}
	if e == api.OK && Check(x) != api.OK {
		t.Fatalf("%s of %s: %s may not be", call, brief(given), brief(x))
	}
	scribble(x)
}

// check holds P15.1 to P15.3 for a topic and what is asked of it.
func check(t *testing.T, x api.Topic, a ask) {
	t.Helper()
	given := deep(x)
	if e := Check(x); e != errnoOf(wantCheck(x)) {
		t.Fatalf("Check(%s): %v", brief(x), e)
	}
	longer, offset, e := Append(x, a.rec)
	want, wantOffset, wantE := wantAppend(x, a.rec)
	if offset != wantOffset {
		t.Fatalf("Append(%s, %s): at %d, want %d", brief(x), brief(a.rec), offset, wantOffset)
	}
	checkTopic(t, "Append "+brief(a.rec), given, longer, e, want, wantE)
	synced, e := Sync(x)
	want, wantE = wantSync(given)
	checkTopic(t, "Sync", given, synced, e, want, wantE)
	kept, e := Keep(x, a.now)
	want, wantE = wantLeft(given, a.now, keep.Keep)
	checkTopic(t, "Keep at "+strconv.Itoa(a.now), given, kept, e, want, wantE)
	folded, e := Fold(x, a.now)
	want, wantE = wantLeft(given, a.now, fold.Fold)
	checkTopic(t, "Fold at "+strconv.Itoa(a.now), given, folded, e, want, wantE)
	some, e := Cut(x, a.n)
	want, wantE = wantCut(given, a.n)
	checkTopic(t, "Cut at "+strconv.Itoa(a.n), given, some, e, want, wantE)
	checkRecs(t, x, a)
	if !same(x, given) {
		t.Fatalf("what was handed in is changed: %s, was %s", brief(x), brief(given))
	}
}

// checkRecs holds what of P15.2 tells no topic.
func checkRecs(t *testing.T, x api.Topic, a ask) {
	t.Helper()
	low, e := Low(x)
	if want, wantE := wantLow(x); low != want || e != wantE {
		t.Fatalf("Low(%s): %d, %v, want %d, %v", brief(x), low, e, want, wantE)
	}
	all, e := All(x)
	if want, wantE := wantAll(x); !sameRecs(all, want) || e != wantE {
		t.Fatalf("All(%s): %s, %v, want %s, %v", brief(x), brief(all), e, brief(want), wantE)
	}
	scribbleRecs(all)
	r, e := Find(x, a.offset)
	if want, wantE := wantFirst(x, func(r api.Rec) bool { return r.Offset >= a.offset }); r != want || e != wantE {
		t.Fatalf("Find(%s, %d): %s, %v, want %s, %v", brief(x), a.offset, brief(r), e, brief(want), wantE)
	}
	r, e = Since(x, a.time)
	if want, wantE := wantFirst(x, func(r api.Rec) bool { return r.Time >= a.time }); r != want || e != wantE {
		t.Fatalf("Since(%s, %d): %s, %v, want %s, %v", brief(x), a.time, brief(r), e, brief(want), wantE)
	}
}

// checkForm holds that every call of a topic is ErrForm, whatever is asked of it, and tells nothing beside it.
func checkForm(t *testing.T, about string, x api.Topic) {
	t.Helper()
	if e := Check(x); e != api.ErrForm {
		t.Errorf("%s: Check: %v", about, e)
	}
	for _, a := range []ask{{}, {offset: 3, time: 9, now: 9, n: x.Next}, {rec: api.Rec{QoS: 3}, now: -1, n: -1}} {
		if longer, offset, e := Append(x, a.rec); !same(longer, api.Topic{}) || offset != 0 || e != api.ErrForm {
			t.Errorf("%s: Append: %s, %d, %v", about, brief(longer), offset, e)
		}
		low, e := Low(x)
		if low != 0 || e != api.ErrForm {
			t.Errorf("%s: Low: %d, %v", about, low, e)
		}
		all, e := All(x)
		if len(all) != 0 || e != api.ErrForm {
			t.Errorf("%s: All: %s, %v", about, brief(all), e)
		}
		for call, r := range map[string]func() (api.Rec, api.Errno){
			"Find":  func() (api.Rec, api.Errno) { return Find(x, a.offset) },
			"Since": func() (api.Rec, api.Errno) { return Since(x, a.time) },
		} {
			if r, e := r(); r != (api.Rec{}) || e != api.ErrForm {
				t.Errorf("%s: %s: %s, %v", about, call, brief(r), e)
			}
		}
		for call, f := range map[string]func() (api.Topic, api.Errno){
			"Sync": func() (api.Topic, api.Errno) { return Sync(x) },
			"Keep": func() (api.Topic, api.Errno) { return Keep(x, a.now) },
			"Fold": func() (api.Topic, api.Errno) { return Fold(x, a.now) },
			"Cut":  func() (api.Topic, api.Errno) { return Cut(x, a.n) },
		} {
			if left, e := f(); !same(left, api.Topic{}) || e != api.ErrForm {
				t.Errorf("%s: %s: %s, %v", about, call, brief(left), e)
			}
		}
		check(t, x, a)
	}
}
