package seg

import (
	"slices"
	"strings"

	"fairway/api"
	"fairway/rec"
)

func isBase(n int) bool {
	return n >= 0 && n <= api.MaxOffset
}

// mayFollow tells whether a record may stand behind those of g, a segment that may be.
func mayFollow(g api.Seg, r api.Rec) bool {
	if len(g.Recs) >= api.MaxRecs || rec.Check(r) != api.OK {
		return false
	}
	if len(g.Recs) == 0 {
		return r.Offset >= g.Base
	}
	last := g.Recs[len(g.Recs)-1]
	return r.Offset > last.Offset && r.Time >= last.Time
}

// first tells the first record of a segment that is far enough, or an error's kind.
func first(g api.Seg, isFarEnough func(api.Rec) bool) any {
	if e := Check(g); e != api.OK {
		return e
	}
	at := slices.IndexFunc(g.Recs, isFarEnough)
	if at < 0 {
		return api.ErrNone
	}
	return copyOf(g.Recs[at])
}

// told tells what was found as a call answers it: a record, or an error.
func told(found any) (api.Rec, api.Errno) {
	r, ok := found.(api.Rec)
	if !ok {
		return api.Rec{}, found.(api.Errno)
	}
	return r, api.OK
}

// copies tells records that share nothing with those of l.
func copies(l []api.Rec) []api.Rec {
	var x []api.Rec
	for _, r := range l {
		x = append(x, copyOf(r))
	}
	return x
}

// copyOf tells a record that does not share the bytes of its texts with r.
func copyOf(r api.Rec) api.Rec {
	r.Key = strings.Clone(r.Key)
	r.Body = strings.Clone(r.Body)
	return r
}
