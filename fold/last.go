package fold

import (
	"fairway/api"
	"fairway/keep"
)

// copies tells segments that share nothing with those of a row: of rules without bounds all are kept.
func copies(l []api.Seg, now int) ([]api.Seg, api.Errno) {
	return keep.Keep(l, api.Rules{SegBytes: 1, Bytes: -1, Age: -1}, now)
}

// lastOfKeys tells the last record of each key, tombstones too; the empty text is none.
func lastOfKeys(l []api.Seg) map[string]api.Rec {
	last := make(map[string]api.Rec)
	for _, g := range l {
		for _, x := range g.Recs {
			if x.Key != "" {
				last[x.Key] = x
			}
		}
	}
	return last
}

// isPassed tells whether a later record has the same key; the empty text has none, and the Offset 0 of none is above no other.
func isPassed(x api.Rec, last map[string]api.Rec) bool {
	return last[x.Key].Offset > x.Offset
}

// isOver tells whether a tombstone has stood long enough.
func isOver(x api.Rec, r api.Rules, now int) bool {
	return x.Gone && x.Time+r.Graves < now
}
