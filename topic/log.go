package topic

import (
	"strings"

	"fairway/api"
	"fairway/keep"
	"fairway/name"
	"fairway/rec"
	"fairway/seg"
)

// isName tells whether a topic may have the name s. One that begins with $ may be any text: what parts levels, or stands for some, is a character as any other there.
func isName(s string) bool {
	const own = "$"
	if strings.HasPrefix(s, own) {
		for _, sign := range []string{"/", "+", "#"} {
			s = strings.ReplaceAll(s, sign, own)
		}
	}
	return name.Topic(s) == api.OK
}

// leastNext tells the least offset that may be the next one: what is ahead of the open segment is below its Base.
func leastNext(row []api.Seg) int {
	open := row[len(row)-1]
	n := len(open.Recs)
	if n == 0 {
		return open.Base
	}
	return open.Recs[n-1].Offset + 1
}

// told tells what a topic came to as a call answers it: a topic, or an error.
func told(found any) (api.Topic, api.Errno) {
	t, ok := found.(api.Topic)
	if !ok {
		return api.Topic{}, found.(api.Errno)
	}
	return t, api.OK
}

// copyOf tells a topic that shares nothing with t.
func copyOf(t api.Topic) (api.Topic, api.Errno) {
	boundless := api.Rules{SegBytes: 1, Bytes: -1, Age: -1} // by which all segments are kept
	return told(left(t, 0, func(l []api.Seg, _ api.Rules, now int) ([]api.Seg, api.Errno) {
		return keep.Keep(l, boundless, now)
	}))
}

// left tells a topic with what is left of its segments, or an error's kind.
func left(t api.Topic, now int, ofSegs func([]api.Seg, api.Rules, int) ([]api.Seg, api.Errno)) any {
	if e := Check(t); e != api.OK {
		return e
	}
	l, e := ofSegs(t.Segs, t.Rules, now)
	if e != api.OK {
		return e
	}
	t.Name, t.Segs = strings.Clone(t.Name), l
	return t
}

// longer tells a topic with one more record, or an error's kind.
func longer(t api.Topic, r api.Rec) any {
	x, e := copyOf(t)
	if e != api.OK {
		return e
	}
	all := recsOf(x.Segs)
	r.Offset = 0 // until it is known that there is a next one
	if rec.Check(r) != api.OK || r.Time < lastTime(all) {
		return api.ErrForm
	}
	if x.Next == api.MaxOffset || len(all) == api.MaxRecs {
		return api.ErrFull
	}
	open := len(x.Segs) - 1
	if size, _ := seg.Size(x.Segs[open]); size >= x.Rules.SegBytes {
		if len(x.Segs) > api.MaxRecs {
			return api.ErrFull
		}
		x.Segs = append(x.Segs, api.Seg{Base: x.Next})
		open++
	}
	r.Offset = x.Next
	x.Segs[open], _ = seg.Add(x.Segs[open], r) // it may be there: all that seg asks was asked above
	x.Next++
	return x
}

// cut tells a topic without what is from the offset n on, or an error's kind.
func cut(t api.Topic, n int) any {
	x, e := copyOf(t)
	if e != api.OK {
		return e
	}
	if !isWithin(n, x.Safe, x.Next) {
		return api.ErrForm
	}
	x.Segs, x.Next = ahead(x.Segs, n), n
	return x
}

// ahead tells what segments have ahead of the offset n.
func ahead(l []api.Seg, n int) []api.Seg {
	var some []api.Seg
	for _, g := range l {
		if g.Base > n {
			break
		}
		x := api.Seg{Base: g.Base}
		for _, r := range g.Recs {
			if r.Offset < n {
				x.Recs = append(x.Recs, r)
			}
		}
		some = append(some, x)
	}
	if len(some) == 0 {
		return []api.Seg{{Base: n}}
	}
	return some
}

// first tells the first record that a segment of a topic tells.
func first(t api.Topic, ofSeg func(api.Seg) (api.Rec, api.Errno)) (api.Rec, api.Errno) {
	if e := Check(t); e != api.OK {
		return api.Rec{}, e
	}
	for _, g := range t.Segs {
		if r, e := ofSeg(g); e == api.OK {
			return r, api.OK
		}
	}
	return api.Rec{}, api.ErrNone
}

// recsOf tells the records of segments, in order.
func recsOf(l []api.Seg) []api.Rec {
	var all []api.Rec
	for _, g := range l {
		all = append(all, g.Recs...)
	}
	return all
}

// lastTime tells the least Time that may come next.
func lastTime(l []api.Rec) int {
	if len(l) == 0 {
		return 0
	}
	return l[len(l)-1].Time
}

func isWithin(n, least, most int) bool {
	return n >= least && n <= most
}
