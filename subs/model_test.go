package subs

import (
	"maps"
	"reflect"
	"slices"
	"strings"
	"testing"

	"fairway/api"
	"fairway/name"
)

// The model of chapter 8 keeps subscriptions by their topics, in no order, and lays them out anew for each answer.

// wantParts says the group and the filter of a subscription's topic.
func wantParts(topic string) (group, filter string, ok bool) {
	l := strings.SplitN(topic, "/", 3)
	if l[0] != "$share" || len(l) == 1 {
		return "", topic, name.Filter(topic) == api.OK
	}
	if len(l) < 3 || name.Topic(l[1]) != api.OK || name.Filter(l[2]) != api.OK {
		return "", "", false
	}
	return l[1], l[2], true
}

// rise says whether each text is above the one ahead of it.
func rise(l []string) bool {
	sorted := slices.Clone(l)
	slices.Sort(sorted)
	return slices.Equal(l, slices.Compact(sorted))
}

// wantSub says whether a subscription may be, of itself.
func wantSub(s api.Sub) bool {
	group, filter, ok := wantParts(s.Filter.Topic)
	var topics []string
	for _, c := range s.Cursors {
		topics = append(topics, c.Topic)
		ok = ok && name.Match(filter, c.Topic) && 0 <= c.Next && c.Next <= 1<<40
	}
	return ok && s.Group == group && rise(topics) &&
		0 <= s.Filter.QoS && s.Filter.QoS <= 2 && 0 <= s.Filter.Handling && s.Filter.Handling <= 2 &&
		-1 <= s.From && s.From <= 1<<40 && 0 <= s.Ident && s.Ident <= 268435455
}

func wantSubs(l []api.Sub) bool {
	var topics []string
	for _, s := range l {
		topics = append(topics, s.Filter.Topic)
	}
	return len(l) <= 8 && rise(topics) && !slices.ContainsFunc(l, func(s api.Sub) bool { return !wantSub(s) })
}

// byTopics says subscriptions by their topics.
func byTopics(l []api.Sub) map[string]api.Sub {
	m := map[string]api.Sub{}
	for _, s := range l {
		m[s.Filter.Topic] = s
	}
	return m
}

// laid says subscriptions in their order.
func laid(m map[string]api.Sub) []api.Sub {
	var l []api.Sub
	for _, topic := range slices.Sorted(maps.Keys(m)) {
		l = append(l, m[topic])
	}
	return l
}

func wantPut(l []api.Sub, s api.Sub) ([]api.Sub, bool, api.Errno) {
	if !wantSubs(l) || !wantSub(s) {
		return nil, false, api.ErrForm
	}
	m := byTopics(l)
	_, was := m[s.Filter.Topic]
	m[s.Filter.Topic] = s
	if len(m) > 8 {
		return nil, false, api.ErrFull
	}
	return laid(m), was, api.OK
}

func wantDel(l []api.Sub, topic string) ([]api.Sub, api.Errno) {
	m := byTopics(l)
	_, was := m[topic]
	switch {
	case !wantSubs(l):
		return nil, api.ErrForm
	case !was:
		return nil, api.ErrNone
	}
	delete(m, topic)
	return laid(m), api.OK
}

func wantFind(l []api.Sub, topic string) (api.Sub, api.Errno) {
	s, was := byTopics(l)[topic]
	switch {
	case !wantSubs(l):
		return api.Sub{}, api.ErrForm
	case !was:
		return api.Sub{}, api.ErrNone
	}
	return s, api.OK
}

func wantAll(l []api.Sub, topic string) ([]api.Sub, int, api.Errno) {
	if !wantSubs(l) || name.Topic(topic) != api.OK {
		return nil, 0, api.ErrForm
	}
	m, most := byTopics(l), -1
	for key, s := range m {
		if _, filter, _ := wantParts(key); !name.Match(filter, topic) {
			delete(m, key)
		} else if s.Filter.QoS > most {
			most = s.Filter.QoS
		}
	}
	return laid(m), most, api.OK
}

// deep says a copy of subscriptions, in which an empty list is nil.
func deep(l []api.Sub) []api.Sub {
	var x []api.Sub
	for _, s := range l {
		s.Cursors = append([]api.Cursor(nil), s.Cursors...)
		x = append(x, s)
	}
	return x
}

func same(a, b []api.Sub) bool {
	return reflect.DeepEqual(deep(a), deep(b))
}

// scribble writes over subscriptions that were told, and behind them as far as there is room.
func scribble(l []api.Sub) {
	other := api.Cursor{Topic: "\x00", Next: -7}
	for i := range l {
		cursors := l[i].Cursors[:cap(l[i].Cursors)]
		for k := range cursors {
			cursors[k] = other
		}
	}
	l = l[:cap(l)]
	for i := range l {
		l[i] = api.Sub{Filter: api.Filter{Topic: "\x00"}, Cursors: []api.Cursor{other}}
	}
}

// checkCalls holds P8.1 and P8.2 for all calls with a list, one more, and a topic; and R2: what was handed in stays as it is.
func checkCalls(t *testing.T, l []api.Sub, s api.Sub, topic string) {
	t.Helper()
	l, given, one := deep(l), deep(l), deep([]api.Sub{s})
	checkPut(t, l, s)
	checkTopic(t, l, topic)
	if !same(l, given) || !same([]api.Sub{s}, one) {
		t.Fatalf("what was handed in is changed: %.300v, %.100v, was %.300v, %.100v", l, s, given, one)
	}
}

// checkPut holds Check and Put.
func checkPut(t *testing.T, l []api.Sub, s api.Sub) {
	t.Helper()
	form := api.OK
	if !wantSubs(l) {
		form = api.ErrForm
	}
	if e := Check(l); e != form {
		t.Fatalf("Check(%.300v): %v, want %v", l, e, form)
	}
	x, was, e := Put(l, s)
	want, wantWas, wantE := wantPut(l, s)
	if !same(x, want) || was != wantWas || e != wantE {
		t.Fatalf("Put(%.300v, %.100v): %.300v, %v, %v, want %.300v, %v, %v", l, s, x, was, e, want, wantWas, wantE)
	}
	scribble(x)
}

// checkTopic holds the calls that take a topic.
func checkTopic(t *testing.T, l []api.Sub, topic string) {
	t.Helper()
	x, e := Del(l, topic)
	if want, wantE := wantDel(l, topic); !same(x, want) || e != wantE {
		t.Fatalf("Del(%.300v, %.50q): %.300v, %v, want %.300v, %v", l, topic, x, e, want, wantE)
	}
	scribble(x)
	s, e := Find(l, topic)
	if want, wantE := wantFind(l, topic); !same([]api.Sub{s}, []api.Sub{want}) || e != wantE {
		t.Fatalf("Find(%.300v, %.50q): %.100v, %v, want %.100v, %v", l, topic, s, e, want, wantE)
	}
	scribble([]api.Sub{s})
	all, e := All(l, topic)
	most, mostE := Most(l, topic)
	want, wantMost, wantE := wantAll(l, topic)
	if !same(all, want) || e != wantE {
		t.Fatalf("All(%.300v, %.50q): %.300v, %v, want %.300v, %v", l, topic, all, e, want, wantE)
	}
	if most != wantMost || mostE != wantE {
		t.Fatalf("Most(%.300v, %.50q): %v, %v, want %v, %v", l, topic, most, mostE, wantMost, wantE)
	}
	scribble(all)
}
