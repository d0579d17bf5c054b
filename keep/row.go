package keep

import (
	"strings"

	"fairway/api"
	"fairway/seg"
)

// end is what segments in a row leave to those behind them.
type end struct {
	recs int // how many records there are
	base int // the least Base that may be behind
	time int // the least Time
}

// with tells the end of a row that is one segment longer, and whether that may stand there.
func (at end) with(g api.Seg) (end, bool) {
	n := len(g.Recs)
	if seg.Check(g) != api.OK || g.Base < at.base || at.recs+n > api.MaxRecs {
		return end{}, false
	}
	if n == 0 {
		return end{at.recs, g.Base, at.time}, true
	}
	last := g.Recs[n-1]
	return end{at.recs + n, last.Offset + 1, last.Time}, g.Recs[0].Time >= at.time
}

// isTooMuch tells whether closed segments have more bytes together than they may.
func isTooMuch(size int, r api.Rules) bool {
	return r.Bytes != noBound && size > r.Bytes
}

// isTooOld tells whether a closed segment has nothing that is young enough.
func isTooOld(g api.Seg, r api.Rules, now int) bool {
	if r.Age == noBound {
		return false
	}
	n := len(g.Recs)
	return n == 0 || g.Recs[n-1].Time+r.Age < now
}

// sizeOf tells how many bytes the records of segments have together.
func sizeOf(l ...api.Seg) int {
	all := 0
	for _, g := range l {
		k, _ := seg.Size(g) // each one may be: Row says so
		all += k
	}
	return all
}

// copyOf tells a segment that shares nothing with g.
func copyOf(g api.Seg) api.Seg {
	x := api.Seg{Base: g.Base}
	for _, r := range g.Recs {
		r.Key, r.Body = strings.Clone(r.Key), strings.Clone(r.Body)
		x.Recs = append(x.Recs, r)
	}
	return x
}

func isWithin(n, least, most int) bool {
	return n >= least && n <= most
}
