package rec

import (
	"strings"

	"fairway/api"
	"fairway/vbi"
)

// layout names the parts of a record's body, in order: what writes and what takes one go by it alike. The value of a part is an int or a string.
const layout = "otfkb"

const (
	offsetPart = 'o' // eight bytes, the highest first
	timePart   = 't' // likewise
	flagsPart  = 'f' // a byte: QoS and whether it is Gone
	keyPart    = 'k' // bytes, their length ahead
	bodyPart   = 'b' // all that is left
)

const (
	longLen  = 8 // bytes of a long number
	halfBits = 32
	goneFlag = 4 // above the bits of QoS
)

// putBody tells the body of a record that may be.
func putBody(r api.Rec) string {
	var all strings.Builder
	for _, part := range layout {
		all.WriteString(put(part, valueOf(part, r)))
	}
	return all.String()
}

// takeBody tells the record whose body s is.
func takeBody(s string) (api.Rec, api.Errno) {
	var r api.Rec
	for _, part := range layout {
		v, k, e := take(part, s)
		if e != api.OK {
			return api.Rec{}, e
		}
		r = with(r, part, v)
		s = s[k:]
	}
	return r, Check(r)
}

// valueOf tells what a record has as a part.
func valueOf(part rune, r api.Rec) any {
	switch part {
	case offsetPart:
		return r.Offset
	case timePart:
		return r.Time
	case flagsPart:
		return flagsOf(r)
	case keyPart:
		return r.Key
	}
	return r.Body
}

// with tells a record that has a value as a part.
func with(r api.Rec, part rune, v any) api.Rec {
	switch part {
	case offsetPart:
		r.Offset = v.(int)
	case timePart:
		r.Time = v.(int)
	case flagsPart:
		flags := v.(int)
		r.Gone = flags&goneFlag != 0
		r.QoS = flags &^ goneFlag // with the bits that mean nothing, which make it no QoS
	case keyPart:
		r.Key = v.(string)
	case bodyPart:
		r.Body = v.(string)
	}
	return r
}

// put tells the bytes of a part's value, in a record that may be.
func put(part rune, v any) string {
	switch part {
	case offsetPart, timePart:
		return putLong(v.(int))
	case flagsPart:
		return string([]byte{byte(v.(int))})
	case keyPart:
		s, _ := vbi.Bin(v.(string))
		return s
	}
	return v.(string)
}

// take tells the value of a part that s begins with, and how many bytes it has.
func take(part rune, s string) (v any, k int, e api.Errno) {
	switch part {
	case offsetPart, timePart:
		return takeLong(s)
	case flagsPart:
		return takeByte(s)
	case keyPart:
		return vbi.TakeBin(s)
	}
	return strings.Clone(s), len(s), api.OK
}

func flagsOf(r api.Rec) int {
	if r.Gone {
		return r.QoS | goneFlag
	}
	return r.QoS
}

func putLong(n int) string {
	high, _ := vbi.Four(n >> halfBits) // a record's numbers are not below 0: both halves fit
	low, _ := vbi.Four(n % (1 << halfBits))
	return high + low
}

// takeLong tells a number of eight bytes: one below 0, where they tell more than an int has.
func takeLong(s string) (n int, k int, e api.Errno) {
	if len(s) < longLen {
		return 0, 0, api.ErrCut
	}
	high, _ := vbi.TakeFour(s)
	low, _ := vbi.TakeFour(s[longLen/2:])
	return high<<halfBits | low, longLen, api.OK
}

func takeByte(s string) (n int, k int, e api.Errno) {
	if s == "" {
		return 0, 0, api.ErrCut
	}
	return int(s[0]), 1, api.OK
}
