// Package text: texts of MQTT: see ../../shared/doc/01-text.md.
package text

import (
	"strings"
	"unicode/utf8"

	"fairway/api"
)

// Check tells whether s may be a text.
func Check(s string) api.Errno {
	if len(s) > api.MaxText {
		return api.ErrLimit
	}
	for i, r := range s {
		// A byte that is no UTF-8 comes as U+FFFD, which may be where it is written out.
		if !mayBe(r) || r == utf8.RuneError && !strings.HasPrefix(s[i:], string(utf8.RuneError)) {
			return api.ErrBad
		}
	}
	return api.OK
}

// Runes tells the code points of a text, in order.
func Runes(s string) ([]rune, api.Errno) {
	if e := Check(s); e != api.OK {
		return nil, e
	}
	return []rune(s), api.OK
}

// Of tells the text of code points.
func Of(l []rune) (string, api.Errno) {
	size := 0
	for _, r := range l {
		if !mayBe(r) {
			return "", api.ErrBad
		}
		size += utf8.RuneLen(r)
		if size > api.MaxText {
			return "", api.ErrLimit
		}
	}
	return string(l), api.OK
}

// Cut tells the longest beginning of s that has at most n bytes and ends between code points.
func Cut(s string, n int) (string, api.Errno) {
	if e := Check(s); e != api.OK {
		return "", e
	}
	if n < 0 {
		return "", api.ErrForm
	}
	if n >= len(s) {
		return strings.Clone(s), api.OK
	}
	for !utf8.RuneStart(s[n]) {
		n--
	}
	return strings.Clone(s[:n]), api.OK
}

// mayBe tells whether a code point may be in a text.
func mayBe(r rune) bool {
	return utf8.ValidRune(r) && !isControl(r) && !isNoCharacter(r)
}

func isControl(r rune) bool {
	return r < 0x20 || r >= 0x7f && r <= 0x9f
}

func isNoCharacter(r rune) bool {
	lastTwoOfPlane := r&0xfffe == 0xfffe
	return lastTwoOfPlane || r >= 0xfdd0 && r <= 0xfdef
}
