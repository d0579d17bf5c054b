package subs

import (
	"math"
	"math/rand"
	"reflect"
	"slices"
	"strings"
	"testing"

	"fairway/api"
	"fairway/name"
)

// of says a subscription of a topic that may be, with nothing beside it.
func of(topic string) api.Sub {
	group, _, _ := wantParts(topic)
	return api.Sub{Filter: api.Filter{Topic: topic}, Group: group}
}

// ofAll says subscriptions of topics.
func ofAll(topics ...string) []api.Sub {
	var l []api.Sub
	for _, topic := range topics {
		l = append(l, of(topic))
	}
	return l
}

// with says a subscription, changed.
func with(s api.Sub, change func(*api.Sub)) api.Sub {
	change(&s)
	return s
}

// at says a subscription that stands in topics, from offset 0 on, each one further.
func at(s api.Sub, topics ...string) api.Sub {
	s.Cursors = nil
	for i, topic := range topics {
		s.Cursors = append(s.Cursors, api.Cursor{Topic: topic, Next: i})
	}
	return s
}

func topicsOf(l []api.Sub) []string {
	x := []string{}
	for _, s := range l {
		x = append(x, s.Filter.Topic)
	}
	return x
}

// checkOne holds what there is to be said of one subscription, wherever it stands and whatever stands beside it.
func checkOne(t *testing.T, s api.Sub, may bool) {
	t.Helper()
	if wantSub(s) != may {
		t.Fatalf("the model says %v of %.200v", !may, s)
	}
	lists := [][]api.Sub{{s}, {of("\""), s}, {s, of("~")}, {of("\""), of("#!"), s, of("~")}}
	for _, l := range lists {
		slices.SortStableFunc(l, func(a, b api.Sub) int { return strings.Compare(a.Filter.Topic, b.Filter.Topic) })
		checkCalls(t, l, of("m"), s.Filter.Topic)
		checkCalls(t, l, s, "m/n")
		checkCalls(t, l, s, "~")
		if (Check(l) == api.OK) != (may && wantSubs(l)) {
			t.Errorf("Check(%.300v): %v", l, Check(l))
		}
	}
	full := ofAll("1", "2", "3", "4", "5", "6", "7", "8")
	for _, l := range [][]api.Sub{nil, full[:1], full[:7], full} {
		checkCalls(t, l, s, "1")
		_, _, e := Put(l, s)
		want := api.OK
		switch {
		case !may:
			want = api.ErrForm
		case len(l) == 8:
			want = api.ErrFull
		}
		if e != want {
			t.Errorf("Put(%d of them, %.200v): %v, want %v", len(l), s, e, want)
		}
	}
}

// P8.1: each number of a subscription, within its bounds and beyond them.
func TestNumbers(t *testing.T) {
	s := at(of("m/+"), "m/a", "m/b", "m/c")
	for _, c := range []struct {
		field       string
		set         func(s *api.Sub, n int)
		least, most int
	}{
		{"QoS", func(s *api.Sub, n int) { s.Filter.QoS = n }, 0, 2},
		{"Handling", func(s *api.Sub, n int) { s.Filter.Handling = n }, 0, 2},
		{"From", func(s *api.Sub, n int) { s.From = n }, -1, 1 << 40},
		{"Ident", func(s *api.Sub, n int) { s.Ident = n }, 0, 268435455},
		{"the first Next", func(s *api.Sub, n int) { s.Cursors[0].Next = n }, 0, 1 << 40},
		{"a Next between", func(s *api.Sub, n int) { s.Cursors[1].Next = n }, 0, 1 << 40},
		{"the last Next", func(s *api.Sub, n int) { s.Cursors[2].Next = n }, 0, 1 << 40},
	} {
		for _, n := range []int{math.MinInt, -1 << 32, -3, -2, -1, 0, 1, 2, 3, 4, c.most - 1, c.most, c.most + 1, 1 << 32, math.MaxInt} {
			x := deep([]api.Sub{s})[0]
			c.set(&x, n)
			checkOne(t, x, n >= c.least && n <= c.most)
		}
	}
}

// P8.1: what is not bounded, or not looked at: flags, and how many cursors there are.
func TestUnbound(t *testing.T) {
	for _, topic := range []string{"m", "$share/g/m"} {
		for flags := range 4 {
			checkOne(t, with(of(topic), func(s *api.Sub) { s.Filter.NoLocal, s.Filter.AsSent = flags&1 != 0, flags&2 != 0 }), true)
		}
	}
	var many []string
	for r := 'a'; r < 'a'+300; r++ {
		if s := "m/" + string(r); name.Topic(s) == api.OK {
			many = append(many, s)
		}
	}
	checkOne(t, at(of("m/#"), many...), true)
	checkOne(t, at(of("m/#"), append(many, "m/a")...), false)
	checkOne(t, with(of("m"), func(s *api.Sub) { s.Cursors = []api.Cursor{} }), true)
}

// P8.1: topics that are filters, shared ones, or neither, and the groups that these have.
func TestTopics(t *testing.T) {
	long := strings.Repeat("x", 1024)
	deepest := strings.Repeat("x/", 15) + "#"
	for _, c := range []struct {
		topic, group string
		may          bool
	}{
		{"m", "", true},
		{"#", "", true},
		{"+", "", true},
		{"m/+/#", "", true},
		{"/", "", true},
		{"$SYS/#", "", true},
		{"é €", "", true},
		{"m", "g", false},
		{"m", "m", false},
		{"$share", "", true},
		{"$shared/g/m", "", true},
		{"$shared/g/m", "g", false},
		{"$share/g/m", "g", true},
		{"$share/g/m", "", false},
		{"$share/g/m", "h", false},
		{"$share/g/m", "g/", false},
		{"$share/g/m", "G", false},
		{"$share/g/m", "gg", false},
		{"$share/g/m", "m", false},
		{"$share/g/m", "$share/g", false},
		{"$share/é €/#", "é €", true},
		{"$share/g/$share/h/m", "g", true},
		{"$share/g/$share/h/m", "h", false},
		{"$share/g//", "g", true},
		{"$share/g", "", false},
		{"$share/g", "g", false},
		{"$share/g/", "", false},
		{"$share/g/", "g", false},
		{"$share/", "", false},
		{"$share//m", "", false},
		{"$share/+/m", "+", false},
		{"$share/g#/m", "g#", false},
		{"$share/g/m#", "g", false},
		{"$share/g\x00/m", "g\x00", false},
		{"", "", false},
		{"", "g", false},
		{"m+", "", false},
		{"#/m", "", false},
		{"m\x00", "", false},
		{"m\xff", "", false},
		{long, "", true},
		{long + "x", "", false},
		{"$share/" + long + "/" + long, long, true},
		{"$share/g/" + long + "x", "g", false},
		{"$share/" + long + "x/m", long + "x", false},
		{deepest, "", true},
		{"x/" + deepest, "", false},
		{"$share/g/" + deepest, "g", true},
		{"$share/g/x/" + deepest, "g", false},
	} {
		checkOne(t, api.Sub{Filter: api.Filter{Topic: c.topic}, Group: c.group}, c.may)
	}
}

// P8.1: cursors, each of a name that the filter matches, of a shared one too, by rising topics.
func TestCursors(t *testing.T) {
	for _, c := range []struct {
		topic   string
		cursors []string
		may     bool
	}{
		{"m", []string{"m"}, true},
		{"m", []string{"n"}, false},
		{"m", []string{""}, false},
		{"m", []string{"m", "m"}, false},
		{"m/+", []string{"m/"}, true},
		{"m/+", []string{"m"}, false},
		{"m/+", []string{"m/+"}, false},
		{"m/#", []string{"m/#"}, false},
		{"#", []string{"a\x00"}, false},
		{"#", []string{"a\xff"}, false},
		{"#", []string{strings.Repeat("a", 1024)}, true},
		{"#", []string{strings.Repeat("a", 1025)}, false},
		{"#", []string{"$a"}, false},
		{"$a/#", []string{"$a", "$a/b"}, true},
		{"m/#", []string{"m", "m/", "m/B", "m/a", "m/a/b", "m/ab", "m/é", "m/\ufffd", "m/\U0001f600"}, true},
		{"m/#", []string{"m/a", "m"}, false},
		{"m/#", []string{"m/a", "m/B"}, false},
		{"m/#", []string{"m/é", "m/z"}, false},
		{"m/#", []string{"m/\U0001f600", "m/\ufffd"}, false},
		{"m/#", []string{"m", "m/a", "m/a", "m/b"}, false},
		{"m/#", []string{"m", "m/b", "m/a", "m/c"}, false},
		{"m/#", []string{"n", "m/b"}, false},
		{"m/#", []string{"m", "m/b", "n"}, false},
		{"m/#", []string{"l", "m", "m/b"}, false},
		{"$share/g/m/+", []string{"m/a", "m/b"}, true},
		{"$share/g/m/+", []string{"$share/g/m/a"}, false},
		{"$share/g/m/+", []string{"g/m/a"}, false},
		{"$share/g/m/+", []string{"m/b", "m/a"}, false},
		{"$share/g/m", []string{"$share/g/m"}, false},
		{"$share/g/#", []string{"a", "g/m"}, true},
		{"$share/g/#", []string{"$share/g/m"}, false},
	} {
		checkOne(t, at(of(c.topic), c.cursors...), c.may)
	}
}

// P8.1: by rising topics, no two the same.
func TestOrder(t *testing.T) {
	for _, c := range []struct {
		topics []string
		want   api.Errno
	}{
		{nil, api.OK},
		{[]string{"#", "$share/a/z", "$share/b/a", "+", "/", "A", "B", "a"}, api.OK},
		{[]string{"a", "a/", "a/#", "a/+", "a/b", "aa", "z", "é"}, api.OK},
		{[]string{"\ufffd", "\U0001f600"}, api.OK},
		{[]string{"\U0001f600", "\ufffd"}, api.ErrForm},
		{[]string{"a", "a"}, api.ErrForm},
		{[]string{"b", "a"}, api.ErrForm},
		{[]string{"a", "B"}, api.ErrForm},
		{[]string{"aa", "a/"}, api.ErrForm},
		{[]string{"é", "z"}, api.ErrForm},
		{[]string{"a", "b", "b", "c"}, api.ErrForm},
		{[]string{"a", "b", "c", "c"}, api.ErrForm},
		{[]string{"a", "c", "b", "d"}, api.ErrForm},
		{[]string{"a", "b", "d", "c"}, api.ErrForm},
		{[]string{"b", "a", "c", "d"}, api.ErrForm},
		{[]string{"a", "b", "c", "a"}, api.ErrForm},
		{[]string{"$share/b/a", "$share/a/z"}, api.ErrForm},
		{[]string{"a", "$share/b/a"}, api.ErrForm},
	} {
		l := ofAll(c.topics...)
		if e := Check(l); e != c.want {
			t.Errorf("Check of %q: %v, want %v", c.topics, e, c.want)
		}
		for _, topic := range append(c.topics, "aaa", "m") {
			checkCalls(t, l, of(topic), topic)
		}
	}
	// The same filter of two groups, and of none, is three subscriptions.
	l := ofAll("$share/g/a", "$share/h/a", "a")
	if all, e := All(l, "a"); len(all) != 3 || e != api.OK {
		t.Errorf("of a filter by groups and alone: %v, %v", all, e)
	}
}

// P8.1: as many as may be, and one more.
func TestLimit(t *testing.T) {
	nine := ofAll("1", "2", "3", "4", "5", "6", "7", "8", "9")
	eight := nine[:8]
	if e, f := Check(eight), Check(nine); e != api.OK || f != api.ErrForm {
		t.Errorf("eight and nine: %v, %v", e, f)
	}
	if x, was, e := Put(eight, nine[8]); x != nil || was || e != api.ErrFull {
		t.Errorf("a ninth: %v, %v, %v", x, was, e)
	}
	if x, was, e := Put(eight, of("0")); x != nil || was || e != api.ErrFull {
		t.Errorf("a ninth ahead: %v, %v, %v", x, was, e)
	}
	if x, was, e := Put(eight[:7], nine[8]); len(x) != 8 || was || e != api.OK {
		t.Errorf("an eighth: %v, %v, %v", x, was, e)
	}
	for i, s := range eight {
		s.Filter.QoS, s.Ident = 2, 5
		x, was, e := Put(eight, s)
		if len(x) != 8 || !was || e != api.OK || !same(x[i:i+1], []api.Sub{s}) {
			t.Errorf("the same once more: %v, %v, %v", x, was, e)
		}
	}
	if x, was, e := Put(nine, nine[0]); x != nil || was || e != api.ErrForm {
		t.Errorf("Put among nine: %v, %v, %v", x, was, e)
	}
	bad := with(nine[8], func(s *api.Sub) { s.Filter.QoS = 3 })
	if x, was, e := Put(eight, bad); x != nil || was || e != api.ErrForm {
		t.Errorf("a ninth that may not be: %v, %v, %v", x, was, e)
	}
	for _, s := range append(nine, of("0"), bad) {
		checkCalls(t, nine, s, s.Filter.Topic)
		checkCalls(t, eight, s, s.Filter.Topic)
	}
}

// P8.1: Put at each place, new and instead of one, as a whole.
func TestPut(t *testing.T) {
	l := []api.Sub{at(of("b"), "b"), at(of("d/+"), "d/a", "d/b"), of("f")}
	for _, c := range []struct {
		topic string
		was   bool
		want  []string
	}{
		{"a", false, []string{"a", "b", "d/+", "f"}},
		{"b", true, []string{"b", "d/+", "f"}},
		{"c", false, []string{"b", "c", "d/+", "f"}},
		{"d/#", false, []string{"b", "d/#", "d/+", "f"}},
		{"d/+", true, []string{"b", "d/+", "f"}},
		{"e", false, []string{"b", "d/+", "e", "f"}},
		{"f", true, []string{"b", "d/+", "f"}},
		{"g", false, []string{"b", "d/+", "f", "g"}},
		{"$share/g/b", false, []string{"$share/g/b", "b", "d/+", "f"}},
	} {
		s := of(c.topic)
		s.Filter.QoS, s.Filter.NoLocal, s.Filter.AsSent, s.Filter.Handling, s.From, s.Ident = 1, true, true, 2, 1<<40, 268435455
		x, was, e := Put(l, s)
		if !slices.Equal(topicsOf(x), c.want) || was != c.was || e != api.OK {
			t.Errorf("Put of %q: %q, %v, %v, want %q, %v", c.topic, topicsOf(x), was, e, c.want, c.was)
		}
		if i := slices.Index(c.want, c.topic); !same(x[i:i+1], []api.Sub{s}) {
			t.Errorf("Put of %q: %v, want %v", c.topic, x[i], s)
		}
		checkCalls(t, l, s, c.topic)
		checkCalls(t, l, at(s), c.topic)
	}
	if x, was, e := Put(nil, l[1]); !same(x, l[1:2]) || was || e != api.OK {
		t.Errorf("Put of the first: %v, %v, %v", x, was, e)
	}
	if x, was, e := Put([]api.Sub{}, l[1]); !same(x, l[1:2]) || was || e != api.OK {
		t.Errorf("Put of the first to an empty list: %v, %v, %v", x, was, e)
	}
}

// P8.1: Del and Find of each, and of what there is not.
func TestDelAndFind(t *testing.T) {
	l := []api.Sub{of("$share/g/b"), at(of("b"), "b"), at(of("d/+"), "d/a", "d/b"), of("f")}
	for i, s := range l {
		want := append(deep(l[:i]), l[i+1:]...)
		if x, e := Del(l, s.Filter.Topic); !same(x, want) || e != api.OK {
			t.Errorf("Del of %q: %v, %v", s.Filter.Topic, x, e)
		}
		if x, e := Find(l, s.Filter.Topic); !same([]api.Sub{x}, []api.Sub{s}) || e != api.OK {
			t.Errorf("Find of %q: %v, %v", s.Filter.Topic, x, e)
		}
	}
	// A topic that a filter matches, or that is no filter at all, is none of theirs.
	for _, topic := range []string{"", "a", "c", "d/a", "d/#", "d", "e", "F", "g", "#", "$share/g/d/+", "$share/h/b", "$share/g", "d/+\x00", "\xff", strings.Repeat("f", 1025)} {
		if x, e := Del(l, topic); x != nil || e != api.ErrNone {
			t.Errorf("Del of %.20q: %v, %v", topic, x, e)
		}
		if x, e := Find(l, topic); !reflect.DeepEqual(x, api.Sub{}) || e != api.ErrNone {
			t.Errorf("Find of %.20q: %v, %v", topic, x, e)
		}
		checkCalls(t, l, l[0], topic)
	}
	for _, none := range [][]api.Sub{nil, {}} {
		x, e := Del(none, "b")
		if s, f := Find(none, "b"); x != nil || e != api.ErrNone || !reflect.DeepEqual(s, api.Sub{}) || f != api.ErrNone {
			t.Errorf("of none: %v, %v, %v, %v", x, e, s, f)
		}
	}
	if x, e := Del(l[1:2], "b"); len(x) != 0 || e != api.OK {
		t.Errorf("Del of the only one: %v, %v", x, e)
	}
	// What may not be is told ahead of what there is not.
	bad := append(deep(l), of("a"))
	for _, topic := range []string{"b", "x"} {
		x, e := Del(bad, topic)
		if s, f := Find(bad, topic); x != nil || e != api.ErrForm || !reflect.DeepEqual(s, api.Sub{}) || f != api.ErrForm {
			t.Errorf("of what may not be: %v, %v, %v, %v", x, e, s, f)
		}
	}
}

// P8.2: those whose filter matches, in order, and the greatest QoS of these.
func TestAllAndMost(t *testing.T) {
	l := ofAll("#", "$SYS/+", "$share/g/a/+", "$share/h/#", "+/b", "a/#", "a/b", "c")
	for i, qos := range []int{0, 2, 1, 0, 0, 1, 2, 0} {
		l[i].Filter.QoS = qos
	}
	for _, c := range []struct {
		topic string
		all   []string
		most  int
	}{
		{"a/b", []string{"#", "$share/g/a/+", "$share/h/#", "+/b", "a/#", "a/b"}, 2},
		{"a/c", []string{"#", "$share/g/a/+", "$share/h/#", "a/#"}, 1},
		{"a", []string{"#", "$share/h/#", "a/#"}, 1},
		{"x/b", []string{"#", "$share/h/#", "+/b"}, 0},
		{"c", []string{"#", "$share/h/#", "c"}, 0},
		{"$SYS/a", []string{"$SYS/+"}, 2},
		{"$SYS", []string{}, -1},
		{"$share/g/a/b", []string{}, -1},
		{"$share/h/a", []string{}, -1},
	} {
		all, e := All(l, c.topic)
		if !slices.Equal(topicsOf(all), c.all) || e != api.OK {
			t.Errorf("All of %q: %q, %v, want %q", c.topic, topicsOf(all), e, c.all)
		}
		if most, e := Most(l, c.topic); most != c.most || e != api.OK {
			t.Errorf("Most of %q: %d, %v, want %d", c.topic, most, e, c.most)
		}
		checkCalls(t, l, l[0], c.topic)
	}
	for _, c := range []struct {
		l     []api.Sub
		topic string
	}{
		{l, ""}, {l, "+"}, {l, "#"}, {l, "a/+"}, {l, "a/#"}, {l, "a\x00"}, {l, "\xff"}, {l, strings.Repeat("a", 1025)},
		{l, strings.Repeat("/", 16)}, {nil, ""}, {nil, "+"}, {nil, "$share/g/+"}, {ofAll("b", "a"), "a"}, {ofAll("a", "a"), "x"}, {ofAll("+/+", "a+"), ""},
	} {
		all, e := All(c.l, c.topic)
		if most, f := Most(c.l, c.topic); all != nil || e != api.ErrForm || most != 0 || f != api.ErrForm {
			t.Errorf("of %.20q: %v, %v, %v, %v, want %v", c.topic, all, e, most, f, api.ErrForm)
		}
		checkCalls(t, c.l, l[0], c.topic)
	}
	all, e := All(nil, "a")
	if most, f := Most(nil, "a"); len(all) != 0 || e != api.OK || most != -1 || f != api.OK {
		t.Errorf("of none: %v, %v, %v, %v", all, e, most, f)
	}
}

// P8.2: the greatest QoS, wherever it stands.
func TestMostAtEachPlace(t *testing.T) {
	for n := range 27 {
		l := ofAll("#", "+", "a", "b")
		l[0].Filter.QoS, l[1].Filter.QoS, l[2].Filter.QoS, l[3].Filter.QoS = n%3, n/3%3, n/9, 2
		most, e := Most(l, "a")
		if most != max(n%3, n/3%3, n/9) || e != api.OK {
			t.Errorf("Most of %d, %d, %d: %d, %v", n%3, n/3%3, n/9, most, e)
		}
	}
}

// some says a subscription of few that there are, seldom one that may not be.
func some(r *rand.Rand) api.Sub {
	topics := []string{"#", "+", "+/a", "a", "a/#", "a/+", "a/b", "b", "b/+/c", "$SYS/#", "$share/g/a", "$share/g/#", "$share/h/a/+", "é"}
	s := of(topics[r.Intn(len(topics))])
	_, filter, _ := wantParts(s.Filter.Topic)
	for _, topic := range []string{"$SYS/a", "a", "a/a", "a/b", "b", "b/a/c", "é"} {
		if name.Match(filter, topic) && r.Intn(3) > 0 {
			s.Cursors = append(s.Cursors, api.Cursor{Topic: topic, Next: r.Intn(9)})
		}
	}
	s.Filter.QoS, s.Filter.Handling, s.From, s.Ident = r.Intn(3), r.Intn(3), r.Intn(5)-1, r.Intn(9)
	s.Filter.NoLocal, s.Filter.AsSent = r.Intn(2) == 0, r.Intn(2) == 0
	switch r.Intn(60) {
	case 0:
		s.Filter.QoS = 3
	case 1:
		s.Group += "x"
	case 2:
		s.Cursors = append(s.Cursors, api.Cursor{Topic: "a"}, api.Cursor{Topic: "a"})
	}
	return s
}

// P8.3: what was put is found, until it is deleted, however many come and go.
func TestWhatWasPutIsFound(t *testing.T) {
	r := rand.New(rand.NewSource(8))
	var l []api.Sub
	there := map[string]api.Sub{}
	full, most := 0, 0
	for range 4000 {
		s := some(r)
		checkCalls(t, l, s, s.Filter.Topic)
		checkCalls(t, l, s, []string{"a", "a/b", "$SYS/a", "é", "b/a/c"}[r.Intn(5)])
		if r.Intn(5) < 3 {
			x, was, e := Put(l, s)
			if _, want := there[s.Filter.Topic]; e == api.OK && was != want {
				t.Fatalf("Put of %q: was %v", s.Filter.Topic, was)
			}
			switch e {
			case api.OK:
				l, there[s.Filter.Topic] = x, s
			case api.ErrFull:
				full++
			}
		} else if x, e := Del(l, s.Filter.Topic); e == api.OK {
			l = x
			delete(there, s.Filter.Topic)
		}
		if len(l) != len(there) || Check(l) != api.OK {
			t.Fatalf("%d of %d: %v", len(l), len(there), l)
		}
		for topic, s := range there {
			if x, e := Find(l, topic); e != api.OK || !same([]api.Sub{x}, []api.Sub{s}) {
				t.Fatalf("Find of %q: %v, %v, want %v", topic, x, e, s)
			}
		}
		most = max(most, len(l))
	}
	if full < 50 || most != 8 {
		t.Errorf("full %d times, at most %d", full, most)
	}
}

// P8.3, and the chapter's example.
func TestExample(t *testing.T) {
	l, was, e := Put(nil, of("a/+"))
	if was || e != api.OK {
		t.Fatalf("Put: %v, %v", was, e)
	}
	if all, e := All(l, "a/b"); !same(all, ofAll("a/+")) || e != api.OK {
		t.Errorf("All: %v, %v", all, e)
	}
	if s, e := Find(l, "a/+"); !same([]api.Sub{s}, ofAll("a/+")) || e != api.OK {
		t.Errorf("Find: %v, %v", s, e)
	}
	l, e = Del(l, "a/+")
	if len(l) != 0 || e != api.OK {
		t.Errorf("Del: %v, %v", l, e)
	}
	if _, e := Find(l, "a/+"); e != api.ErrNone {
		t.Errorf("Find of what was deleted: %v", e)
	}
}

// R2: no answer shares memory with what was handed in, with another one, or within itself; spare room too.
func TestNothingShared(t *testing.T) {
	cursors := make([]api.Cursor, 2, 8)
	cursors[0], cursors[1] = api.Cursor{Topic: "a"}, api.Cursor{Topic: "b", Next: 3}
	room := make([]api.Sub, 3, 8)
	for i, topic := range []string{"#", "$share/g/#", "+"} { // all of one memory, as the caller may have them
		room[i] = of(topic)
		room[i].Cursors = cursors
	}
	s := with(of("$share/h/+"), func(s *api.Sub) { s.Cursors = cursors })
	given := deep(room)
	ask := func() [][]api.Sub {
		put, _, _ := Put(room, s)
		instead, _, _ := Put(room, room[1])
		del, _ := Del(room, "+")
		find, _ := Find(room, "#")
		all, _ := All(room, "a")
		return [][]api.Sub{put, instead, del, {find}, all}
	}
	want := ask()
	for i := range want {
		want[i] = deep(want[i])
	}
	answers := ask()
	for i, l := range answers {
		for k := range l {
			if !same(l[k:], want[i][k:]) {
				t.Fatalf("answer %d shares with what was written over: %v, want %v", i, l[k:], want[i][k:])
			}
			scribble(l[k : k+1 : k+1])
		}
		scribble(l)
		if !same(room, given) || !same([]api.Sub{s}, []api.Sub{with(of("$share/h/+"), func(x *api.Sub) { x.Cursors = given[0].Cursors })}) {
			t.Fatalf("answer %d shares with what was handed in: %v, %v", i, room, s)
		}
	}
	if spare := room[:8]; !reflect.DeepEqual(spare[3:], make([]api.Sub, 5)) || cursors[:8][2] != (api.Cursor{}) {
		t.Errorf("written into spare room: %v, %v", spare[3:], cursors[:8])
	}
	if again := ask(); !same(again[0], want[0]) || !same(again[4], want[4]) {
		t.Errorf("asked again: %v", again)
	}
}

// read says subscriptions by lines: of each its topic, its group, and its cursors' topics, with a tab between them.
func read(s string) []api.Sub {
	var l []api.Sub
	for line := range strings.SplitSeq(s, "\n") {
		topic, behind, _ := strings.Cut(line, "\t")
		group, cursors, some := strings.Cut(behind, "\t")
		x := api.Sub{Filter: api.Filter{Topic: topic, QoS: len(line) % 3}, Group: group}
		if some {
			x = at(x, strings.Split(cursors, "\t")...)
		}
		l = append(l, x)
	}
	return l
}

// P8.1 to P8.3, of any texts.
func FuzzSubs(f *testing.F) {
	f.Add("#\t\ta\ta/b\n$share/g/a\tg\ta", "a/+", "a", 0)
	f.Add("a\nb\nc\nd\ne\nf\ng\nh", "i\ti", "i", 3)
	f.Add("a\na", "$share/g", "\xff", -1)
	f.Fuzz(func(t *testing.T, many, one, topic string, n int) {
		l, s := read(many), read(one)[0]
		s.From, s.Ident = n, n
		checkCalls(t, l, s, topic)
		checkCalls(t, l, s, s.Filter.Topic)
		checkCalls(t, l[:1], l[0], l[0].Filter.Topic)
		x, _, e := Put(l, s)
		if e != api.OK {
			return
		}
		if found, e := Find(x, s.Filter.Topic); e != api.OK || !same([]api.Sub{found}, []api.Sub{s}) {
			t.Errorf("Find of what was put: %v, %v", found, e)
		}
		if _, e := Del(x, s.Filter.Topic); e != api.OK {
			t.Errorf("Del of what was put: %v", e)
		}
	})
}
