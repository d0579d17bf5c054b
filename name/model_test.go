package name

import (
	"regexp"
	"strings"
	"unicode"
	"unicode/utf8"

	"fairway/api"
)

// The model of chapter 7: patterns of whole texts, where the package goes level by level.

var (
	topicText  = regexp.MustCompile(`^[^+#]+$`)
	filterText = regexp.MustCompile(`^(#|(\+|[^+#/]*)(/(\+|[^+#/]*))*(/#)?)$`)
	sharedText = regexp.MustCompile(`^\$share/([^+#/]+)/(.*)$`)
)

// wantText says what is wrong with a text, from the library's tables.
func wantText(s string) api.Errno {
	no := func(r rune) bool { return unicode.In(r, unicode.Cc, unicode.Cs, unicode.Noncharacter_Code_Point) }
	switch {
	case len(s) > 1024:
		return api.ErrLimit
	case !utf8.ValidString(s), strings.ContainsFunc(s, no):
		return api.ErrBad
	}
	return api.OK
}

func wantOf(s string, pattern *regexp.Regexp) api.Errno {
	if e := wantText(s); e != api.OK {
		return e
	}
	if s == "" || strings.Count(s, "/") > 15 || !pattern.MatchString(s) {
		return api.ErrBad
	}
	return api.OK
}

func wantTopic(s string) api.Errno  { return wantOf(s, topicText) }
func wantFilter(s string) api.Errno { return wantOf(s, filterText) }

func wantShare(s string) (shared bool, group string, filter string, e api.Errno) {
	if !strings.HasPrefix(s, "$share/") {
		if e = wantFilter(s); e != api.OK {
			return false, "", "", e
		}
		return false, "", s, api.OK
	}
	l := sharedText.FindStringSubmatch(s)
	if l == nil || wantText(l[1]) != api.OK || wantFilter(l[2]) != api.OK {
		return false, "", "", api.ErrBad
	}
	return true, l[1], l[2], api.OK
}

// wantMatch says for a filter which names it matches.
func wantMatch(filter string) func(topic string) bool {
	if wantFilter(filter) != api.OK {
		return func(string) bool { return false }
	}
	above, below := strings.CutSuffix(filter, "/#")
	s := strings.ReplaceAll(regexp.QuoteMeta(above), `\+`, `[^/]*`)
	if below {
		s += `(/.*)?`
	}
	if filter == "#" {
		s = `.*`
	}
	pattern := regexp.MustCompile(`^(` + s + `)$`)
	wild := filter[0] == '+' || filter[0] == '#'
	return func(topic string) bool {
		return wantTopic(topic) == api.OK && pattern.MatchString(topic) && !(wild && topic[0] == '$')
	}
}
