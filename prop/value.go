package prop

import (
	"fairway/api"
	"fairway/vbi"
)

// The kinds, as Kind tells them. The value of a property is an int, a string, or a pair.
const (
	oneByte = iota + 1
	twoBytes
	fourBytes
	number
	words
	anyBytes
	twoTexts
)

type pair struct {
	first, second string
}

// putOne tells the bytes of a property that may stand somewhere: ErrForm, if it is not of its kind.
func putOne(p api.Prop) (string, api.Errno) {
	kind, _ := Kind(p.ID) // what may stand somewhere has one
	v := valueOf(kind, p)
	s, e := put(kind, v)
	if e != api.OK || propOf(p.ID, v) != p { // there is something in it that its kind does not have
		return "", api.ErrForm
	}
	return string([]byte{byte(p.ID)}) + s, api.OK
}

// takeOne tells the property that s, which is not empty, begins with, and how many bytes it has.
func takeOne(s string) (p api.Prop, k int, e api.Errno) {
	id := int(s[0])
	kind, e := Kind(id)
	if e != api.OK {
		return api.Prop{}, 0, api.ErrBad
	}
	v, k, e := take(kind, s[1:])
	if e == api.ErrCut { // how many bytes there are was said ahead of them: more will not come
		e = api.ErrBad
	}
	if e != api.OK {
		return api.Prop{}, 0, e
	}
	return propOf(id, v), 1 + k, api.OK
}

// valueOf tells what a property of a kind has.
func valueOf(kind int, p api.Prop) any {
	switch kind {
	case words, anyBytes:
		return p.S
	case twoTexts:
		return pair{p.S, p.V}
	}
	return p.N
}

// propOf tells the property that has a value, and nothing beside it.
func propOf(id int, v any) api.Prop {
	if n, ok := v.(int); ok {
		return api.Prop{ID: id, N: n}
	}
	if s, ok := v.(string); ok {
		return api.Prop{ID: id, S: s}
	}
	both := v.(pair)
	return api.Prop{ID: id, S: both.first, V: both.second}
}

// put tells the bytes of a value of a kind.
func put(kind int, v any) (string, api.Errno) {
	switch kind {
	case oneByte:
		return string([]byte{byte(v.(int))}), api.OK // mayHave has held it to 0 and 1
	case twoBytes:
		return vbi.Two(v.(int))
	case fourBytes:
		return vbi.Four(v.(int))
	case number:
		return vbi.Num(v.(int))
	case words:
		return vbi.Text(v.(string))
	case anyBytes:
		return vbi.Bin(v.(string))
	}
	return putPair(v.(pair))
}

// take tells the value of a kind that s begins with, and how many bytes it has.
func take(kind int, s string) (v any, k int, e api.Errno) {
	switch kind {
	case oneByte:
		return takeByte(s)
	case twoBytes:
		v, e = vbi.TakeTwo(s)
		return v, 2, e
	case fourBytes:
		v, e = vbi.TakeFour(s)
		return v, 4, e
	case number:
		return vbi.TakeNum(s)
	case words:
		return vbi.TakeText(s)
	case anyBytes:
		return vbi.TakeBin(s)
	}
	return takePair(s)
}

func takeByte(s string) (n int, k int, e api.Errno) {
	if s == "" {
		return 0, 0, api.ErrCut
	}
	return int(s[0]), 1, api.OK
}

func putPair(v pair) (string, api.Errno) {
	first, e := vbi.Text(v.first)
	if e != api.OK {
		return "", e
	}
	second, e := vbi.Text(v.second)
	if e != api.OK {
		return "", e
	}
	return first + second, api.OK
}

func takePair(s string) (v pair, k int, e api.Errno) {
	first, k, e := vbi.TakeText(s)
	if e != api.OK {
		return pair{}, 0, e
	}
	second, n, e := vbi.TakeText(s[k:])
	if e != api.OK {
		return pair{}, 0, e
	}
	return pair{first, second}, k + n, api.OK
}
