package subs

import (
	"slices"
	"strings"

	"fairway/api"
	"fairway/name"
)

// asked is what a subscription's topic asks for: the topics that a filter matches, for a group, if it is a shared one.
type asked struct {
	group, filter string
}

// ask tells what a subscription's topic asks for: asked, or an error's kind, where it is neither a filter nor a shared one.
func ask(topic string) any {
	_, group, filter, e := name.Share(topic)
	if e != api.OK {
		return e
	}
	return asked{group, filter}
}

// mayBe tells whether a subscription may be, of itself.
func mayBe(s api.Sub) bool {
	a, ok := ask(s.Filter.Topic).(asked)
	return ok && s.Group == a.group &&
		isWithin(s.Filter.QoS, 0, 2) && isWithin(s.Filter.Handling, 0, 2) &&
		isWithin(s.From, -1, api.MaxOffset) && isWithin(s.Ident, 0, api.MaxNum) &&
		mayStand(s.Cursors, a.filter)
}

// mayStand tells whether cursors may be those of a subscription of that filter.
func mayStand(l []api.Cursor, filter string) bool {
	for i, c := range l {
		if !name.Match(filter, c.Topic) || !isWithin(c.Next, 0, api.MaxOffset) {
			return false
		}
		if i > 0 && l[i-1].Topic >= c.Topic {
			return false
		}
	}
	return true
}

// reaches tells whether the filter of a subscription that may be matches a topic's name.
func reaches(s api.Sub, topic string) bool {
	return name.Match(ask(s.Filter.Topic).(asked).filter, topic)
}

func isWithin(n, least, most int) bool {
	return n >= least && n <= most
}

// copies tells subscriptions that share nothing with those of l.
func copies(l []api.Sub) []api.Sub {
	var x []api.Sub
	for _, s := range l {
		x = append(x, copyOf(s))
	}
	return x
}

// copyOf tells a subscription that shares nothing with s: neither its cursors nor the bytes of its texts.
func copyOf(s api.Sub) api.Sub {
	s.Filter.Topic = strings.Clone(s.Filter.Topic)
	s.Group = strings.Clone(s.Group)
	s.Cursors = slices.Clone(s.Cursors)
	for i, c := range s.Cursors {
		s.Cursors[i].Topic = strings.Clone(c.Topic)
	}
	return s
}
