package prop

import (
	"encoding/binary"
	"math"
	"slices"
	"strings"
	"testing"

	"fairway/api"
	"fairway/text"
)

// row is a line of MQTT's own table of properties: by ID a kind, and where it may stand. Chapter 4 lists the IDs by places instead.
type row struct {
	id     int
	kind   int
	places []int
	noZero bool
}

func table() []row {
	message := []int{0, api.Publish}
	both := []int{api.Connect, api.ConnAck}
	auth := []int{api.Connect, api.ConnAck, api.Auth}
	reasons := []int{api.ConnAck, api.PubAck, api.PubRec, api.PubRel, api.PubComp, api.SubAck, api.UnsubAck, api.Disconnect, api.Auth}
	users := append([]int{0, api.Connect, api.Publish, api.Subscribe, api.Unsubscribe}, reasons...)
	return []row{
		{1, 1, message, false},
		{2, 3, message, false},
		{3, 5, message, false},
		{8, 5, message, false},
		{9, 6, message, false},
		{11, 4, []int{api.Publish, api.Subscribe}, true},
		{17, 3, []int{api.Connect, api.ConnAck, api.Disconnect}, false},
		{18, 5, []int{api.ConnAck}, false},
		{19, 2, []int{api.ConnAck}, false},
		{21, 5, auth, false},
		{22, 6, auth, false},
		{23, 1, []int{api.Connect}, false},
		{24, 3, []int{0}, false},
		{25, 1, []int{api.Connect}, false},
		{26, 5, []int{api.ConnAck}, false},
		{28, 5, []int{api.ConnAck, api.Disconnect}, false},
		{31, 5, reasons, false},
		{33, 2, both, true},
		{34, 2, both, false},
		{35, 2, []int{api.Publish}, true},
		{36, 1, []int{api.ConnAck}, false},
		{37, 1, []int{api.ConnAck}, false},
		{38, 7, users, false},
		{39, 3, both, true},
		{40, 1, []int{api.ConnAck}, false},
		{41, 1, []int{api.ConnAck}, false},
		{42, 1, []int{api.ConnAck}, false},
	}
}

func rowOf(id int) (row, bool) {
	l := table()
	i := slices.IndexFunc(l, func(r row) bool { return r.id == id })
	if i < 0 {
		return row{}, false
	}
	return l[i], true
}

func isPlaceWanted(place int) bool {
	return place >= 0 && place <= 15
}

// mayBeThere says whether p may stand at a place behind others, whatever the form of its value.
func mayBeThere(place int, ahead []api.Prop, p api.Prop) bool {
	r, ok := rowOf(p.ID)
	if !ok || !slices.Contains(r.places, place) || r.noZero && p.N == 0 || r.kind == 1 && p.N > 1 {
		return false
	}
	many := p.ID == 38 || p.ID == 11 && place == api.Publish
	return many || !slices.ContainsFunc(ahead, func(q api.Prop) bool { return q.ID == p.ID })
}

// sized says the bytes of a text, whether or not it may be.
func sized(s string) string {
	return string(binary.BigEndian.AppendUint16(nil, uint16(len(s)))) + s
}

// raw says the bytes of a property by its kind, whether or not it may be.
func raw(p api.Prop) string {
	id := string([]byte{byte(p.ID)})
	r, _ := rowOf(p.ID)
	switch r.kind {
	case 1:
		return id + string([]byte{byte(p.N)})
	case 2:
		return id + string(binary.BigEndian.AppendUint16(nil, uint16(p.N)))
	case 3:
		return id + string(binary.BigEndian.AppendUint32(nil, uint32(p.N)))
	case 4:
		return id + string(binary.AppendUvarint(nil, uint64(p.N)))
	case 7:
		return id + sized(p.S) + sized(p.V)
	}
	return id + sized(p.S)
}

// behindLength says bytes with their length ahead.
func behindLength(s string) string {
	return string(binary.AppendUvarint(nil, uint64(len(s)))) + s
}

// isOfKind says whether a property is of its kind, wherever it stands.
func isOfKind(p api.Prop) bool {
	r, ok := rowOf(p.ID)
	if !ok {
		return false
	}
	greatest := []int{0, 1, 1<<16 - 1, 1<<32 - 1, api.MaxNum, 0, 0, 0}[r.kind]
	if p.N < 0 || p.N > greatest {
		return false
	}
	switch r.kind {
	case 5:
		return p.V == "" && text.Check(p.S) == api.OK
	case 6:
		return p.V == "" && len(p.S) <= api.MaxText
	case 7:
		return text.Check(p.S) == api.OK && text.Check(p.V) == api.OK
	}
	return p.S == "" && p.V == ""
}

func wantBytes(place int, l []api.Prop) (string, api.Errno) {
	if !isPlaceWanted(place) || len(l) > 8 {
		return "", api.ErrForm
	}
	rest := ""
	for i, p := range l {
		if !isOfKind(p) || !mayBeThere(place, l[:i], p) {
			return "", api.ErrForm
		}
		rest += raw(p)
	}
	return behindLength(rest), api.OK
}

func wantSized(s string, isText bool) (string, int, api.Errno) {
	if len(s) < 2 {
		return "", 0, api.ErrBad
	}
	n := int(binary.BigEndian.Uint16([]byte(s)))
	switch {
	case n > api.MaxText:
		return "", 0, api.ErrLimit
	case len(s) < 2+n, isText && text.Check(s[2:2+n]) != api.OK:
		return "", 0, api.ErrBad
	}
	return s[2 : 2+n], 2 + n, api.OK
}

// wantOne says the property that s begins with, by the row of its ID.
func wantOne(s string) (p api.Prop, k int, e api.Errno) {
	r, ok := rowOf(int(s[0]))
	if !ok {
		return p, 0, api.ErrBad
	}
	p.ID = r.id
	b := []byte(s[1:])
	switch r.kind {
	case 1, 2, 3:
		width := []int{0, 1, 2, 4}[r.kind]
		if len(b) < width {
			return p, 0, api.ErrBad
		}
		p.N = int(binary.BigEndian.Uint64(append(make([]byte, 8-width), b[:width]...)))
		return p, 1 + width, api.OK
	case 4:
		n, k := binary.Uvarint(b[:min(len(b), 4)])
		if k <= 0 || len(binary.AppendUvarint(nil, n)) < k {
			return p, 0, api.ErrBad
		}
		p.N = int(n)
		return p, 1 + k, api.OK
	}
	p.S, k, e = wantSized(s[1:], r.kind != 6)
	if e != api.OK || r.kind != 7 {
		return p, 1 + k, e
	}
	n := 0
	p.V, n, e = wantSized(s[1+k:], true)
	return p, 1 + k + n, e
}

func wantTake(place int, s string) ([]api.Prop, int, api.Errno) {
	if !isPlaceWanted(place) {
		return nil, 0, api.ErrForm
	}
	head := s[:min(len(s), 4)]
	size, k := binary.Uvarint([]byte(head))
	switch {
	case k == 0 && len(head) < 4:
		return nil, 0, api.ErrCut
	case k == 0 || len(binary.AppendUvarint(nil, size)) < k:
		return nil, 0, api.ErrBad
	case uint64(len(s)-k) < size:
		return nil, 0, api.ErrCut
	}
	var l []api.Prop
	end := k + int(size)
	for at := k; at < end; {
		p, n, e := wantOne(s[at:end])
		switch {
		case e != api.OK:
			return nil, 0, e
		case !mayBeThere(place, l, p):
			return nil, 0, api.ErrProto
		case len(l) == 8:
			return nil, 0, api.ErrLimit
		}
		l = append(l, p)
		at += n
	}
	return l, end, api.OK
}

// checkPut holds P4.1, P4.2 and P4.4 for one list at one place.
func checkPut(t *testing.T, place int, l []api.Prop) {
	t.Helper()
	want, bad := wantBytes(place, l)
	if e := Check(place, l); e != bad {
		t.Fatalf("Check(%d, %.99v): %v, want %v", place, l, e, bad)
	}
	s, e := Bytes(place, l)
	if s != want || e != bad {
		t.Fatalf("Bytes(%d, %.99v): %.99q, %v, want %.99q, %v", place, l, s, e, want, bad)
	}
	if bad != api.OK {
		return
	}
	for _, rest := range []string{"", "\x00", "\x26\xff"} {
		if back, k, e := Take(place, s+rest); !slices.Equal(back, l) || k != len(s) || e != api.OK {
			t.Fatalf("Take(%d, %.99q): %.99v, %d, %v", place, s+rest, back, k, e)
		}
	}
}

// checkTake holds P4.3 and P4.4 for the beginning of any bytes, at one place.
func checkTake(t *testing.T, place int, s string) {
	t.Helper()
	want, size, bad := wantTake(place, s)
	l, k, e := Take(place, s)
	if !slices.Equal(l, want) || k != size || e != bad {
		t.Fatalf("Take(%d, %.99q): %.99v, %d, %v, want %.99v, %d, %v", place, s, l, k, e, want, size, bad)
	}
	if e != api.OK {
		return
	}
	if e := Check(place, l); e != api.OK {
		t.Fatalf("Check of what was taken of %.99q at %d: %v", s, place, e)
	}
	if back, e := Bytes(place, l); back != s[:k] || e != api.OK {
		t.Fatalf("Bytes(Take(%d, %.99q)): %.99q, %v", place, s, back, e)
	}
}

// numbers tells numbers near the edges of all kinds, and beyond them.
func numbers() []int {
	l := []int{math.MinInt, math.MinInt32, -256, -2, -1, math.MaxInt - 1, math.MaxInt}
	for _, n := range []int{0, 128, 256, 1 << 14, 1 << 16, api.MaxNum, 1 << 32} {
		for d := range 4 {
			l = append(l, n+d-1)
		}
	}
	return l
}

func texts() []string {
	long := strings.Repeat("x", api.MaxText)
	return []string{"", "a", "aé", "\ufffd", "\x00", "a\x1f", "\xff", "é"[:1], long, long + "x", long + "\x00"}
}

// samples tells properties of an ID, at the edges of every kind, of its own and of others.
func samples(id int) []api.Prop {
	var l []api.Prop
	for _, n := range numbers() {
		l = append(l, api.Prop{ID: id, N: n})
	}
	for _, s := range texts() {
		l = append(l, api.Prop{ID: id, S: s}, api.Prop{ID: id, V: s}, api.Prop{ID: id, N: 1, S: s}, api.Prop{ID: id, N: 1, V: s})
		for _, v := range texts() {
			l = append(l, api.Prop{ID: id, S: s, V: v})
		}
	}
	return append(l, api.Prop{ID: id, N: 1, S: "a", V: "b"})
}

func ids() []int {
	l := []int{math.MinInt, -256, -38, 127, 128, 166, 255, 256, 294, 1 << 32, math.MaxInt}
	for id := -2; id < 50; id++ {
		l = append(l, id)
	}
	return l
}

func places() []int {
	l := []int{math.MinInt, 256, 1 << 32, math.MaxInt}
	for place := -2; place < 19; place++ {
		l = append(l, place)
	}
	return l
}

// P4.1: the kind of every ID, and of what is none.
func TestKind(t *testing.T) {
	check := func(id int) {
		want, bad := 0, api.ErrNone
		if r, ok := rowOf(id); ok {
			want, bad = r.kind, api.OK
		}
		if n, e := Kind(id); n != want || e != bad {
			t.Errorf("Kind(%d): %d, %v, want %d, %v", id, n, e, want, bad)
		}
	}
	for id := range 1 << 10 {
		check(id)
	}
	for _, id := range ids() {
		check(id)
	}
}

// P4.1, P4.2, P4.4: one property of any ID and value, at each place.
func TestOne(t *testing.T) {
	for _, id := range ids() {
		for _, p := range samples(id) {
			for _, place := range places() {
				checkPut(t, place, []api.Prop{p})
			}
		}
	}
}

// P4.3, P4.4: the bytes of one property of any ID, well formed or not, at each place.
func TestTakeOne(t *testing.T) {
	for _, r := range table() {
		for _, p := range samples(r.id) {
			for _, place := range places() {
				checkTake(t, place, behindLength(raw(p)))
			}
		}
	}
}

// P4.3, P4.4: every byte as an ID, with values that fit, that are cut off and that are none behind it.
func TestTakeAnyID(t *testing.T) {
	tails := []string{
		"", "\x00", "\x01", "\x02", "\x80", "\xff", "\x00\x00", "\x00\x01", "\x01\x00", "\x80\x00", "\x80\x01", "\xff\xff",
		"\x00\x01a", "\x00\x01\x00", "\x00\x02a", "\x04\x01a", "\x80\x80\x01", "\x00\x00\x00", "\x00\x00\x00\x00", "\x00\x00\x00\x01",
		"\x00\x01a\x00", "\x00\x01a\x00\x01", "\x00\x01a\x00\x01b", "\x00\x01a\x00\x01\xff", "\x00\x01a\x04\x01", "\x00\x01\xff\x04\x01",
		"\xff\xff\xff\x7f", "\x80\x80\x80\x80", "\x80\x80\x80\x80\x01", "\x00\x00\x00\x00\x26", "\x00\x01a\x26\x00\x00\x00\x00",
	}
	for id := range 256 {
		for _, tail := range tails {
			for place := range 16 {
				checkTake(t, place, behindLength(string([]byte{byte(id)})+tail))
			}
		}
	}
}

// P4.1 to P4.4: two properties of any two IDs, at each place: none twice, but 38, and 11 in Publish.
func TestTwo(t *testing.T) {
	for _, a := range table() {
		for _, b := range table() {
			l := []api.Prop{plain(a, 1), plain(b, 0)}
			for _, place := range places() {
				checkPut(t, place, l)
				checkTake(t, place, behindLength(raw(l[0])+raw(l[1])))
				checkPut(t, place, []api.Prop{l[0], {ID: 38}, l[1]})
			}
		}
	}
}

// plain tells a property of a row that may be, a different one for each n.
func plain(r row, n int) api.Prop {
	switch {
	case r.kind == 7:
		return api.Prop{ID: r.id, S: strings.Repeat("k", n), V: "v"}
	case r.kind >= 5:
		return api.Prop{ID: r.id, S: strings.Repeat("s", n)}
	case r.noZero:
		return api.Prop{ID: r.id, N: n + 1}
	}
	return api.Prop{ID: r.id, N: n}
}

// P4.1 to P4.4: all that may stand at a place, as many as may be, and one more.
func TestMany(t *testing.T) {
	long := strings.Repeat("x", api.MaxText)
	full := slices.Repeat([]api.Prop{{ID: 38, S: long, V: long}}, 9)
	for place := range 16 {
		var l []api.Prop
		rest := ""
		for _, r := range table() {
			if slices.Contains(r.places, place) {
				l = append(l, plain(r, 1))
				rest += raw(plain(r, 1))
				checkPut(t, place, l)
				checkTake(t, place, behindLength(rest))
			}
		}
		slices.Reverse(l)
		checkPut(t, place, l[:min(len(l), 8)])
		for n := range full {
			checkPut(t, place, full[:n+1])
			checkTake(t, place, behindLength(strings.Repeat(raw(full[0]), n+1)))
		}
	}
	idents := slices.Repeat([]api.Prop{{ID: 11, N: 200}}, 9)
	checkPut(t, api.Publish, idents[:8])
	checkPut(t, api.Publish, idents)
}

// P4.1, P4.2: written out.
func TestBytesTable(t *testing.T) {
	for _, c := range []struct {
		place int
		l     []api.Prop
		want  string
	}{
		{0, nil, "\x00"},
		{api.PingReq, []api.Prop{}, "\x00"},
		{api.PingResp, nil, "\x00"},
		{api.Auth, nil, "\x00"},
		{0, []api.Prop{{ID: 24, N: 258}}, "\x05\x18\x00\x00\x01\x02"},
		{api.Connect, []api.Prop{{ID: 33, N: 258}, {ID: 25, N: 1}}, "\x05\x21\x01\x02\x19\x01"},
		{api.Publish, []api.Prop{{ID: 11, N: 321}, {ID: 11, N: 1}}, "\x05\x0b\xc1\x02\x0b\x01"},
		{api.Publish, []api.Prop{{ID: 9, S: "\x00\xff"}}, "\x05\x09\x00\x02\x00\xff"},
		{api.SubAck, []api.Prop{{ID: 31, S: "aé"}, {ID: 38, S: "k", V: ""}}, "\x0c\x1f\x00\x03aé\x26\x00\x01k\x00\x00"},
	} {
		if s, e := Bytes(c.place, c.l); s != c.want || e != api.OK {
			t.Errorf("Bytes(%d, %v): %q, %v", c.place, c.l, s, e)
		}
		if l, k, e := Take(c.place, c.want); !slices.Equal(l, c.l) || k != len(c.want) || e != api.OK {
			t.Errorf("Take(%d, %q): %v, %d, %v", c.place, c.want, l, k, e)
		}
	}
}

// P4.3: its errors one by one, and in which order.
func TestTakeErrors(t *testing.T) {
	eight := strings.Repeat("\x26\x00\x00\x00\x00", 8)
	x := strings.Repeat("x", api.MaxText+1)
	for _, c := range []struct {
		about string
		place int
		s     string
		want  api.Errno
	}{
		{"no such place", -1, "\x00", api.ErrForm},
		{"no such place, and cut off", 16, "", api.ErrForm},
		{"nothing", 0, "", api.ErrCut},
		{"half a length", 0, "\x80", api.ErrCut},
		{"a length with a needless byte", 0, "\x80\x00", api.ErrBad},
		{"a length of five bytes", 0, "\x80\x80\x80\x80\x01", api.ErrBad},
		{"fewer bytes than it says", api.Connect, "\x03\x21\x00", api.ErrCut},
		{"the greatest length", api.Connect, "\xff\xff\xff\x7f\x21", api.ErrCut},
		{"fewer bytes, and an ID that is none", 0, "\x02\x00", api.ErrCut},
		{"an ID that is none", 0, "\x01\x00", api.ErrBad},
		{"an ID of two bytes", api.Publish, "\x06\xa6\x00\x00\x00\x00\x00", api.ErrBad},
		{"no value", api.Connect, "\x01\x19\x00", api.ErrBad},
		{"half a value, more behind its end", api.Connect, "\x02\x21\x00\x01", api.ErrBad},
		{"a pair without its second text", 0, "\x04\x26\x00\x01k\x00\x00", api.ErrBad},
		{"a value cut off where it may not stand", 0, "\x02\x21\x00", api.ErrBad},
		{"a number with a needless byte", api.Publish, "\x03\x0b\x80\x00", api.ErrBad},
		{"a number of five bytes", api.Publish, "\x06\x0b\x80\x80\x80\x80\x01", api.ErrBad},
		{"a bad text", 0, "\x04\x03\x00\x01\x00", api.ErrBad},
		{"a bad text where it may not stand", 0, "\x04\x1f\x00\x01\x00", api.ErrBad},
		{"a bad second text", 0, "\x06\x26\x00\x00\x00\x01\x00", api.ErrBad},
		{"a text that is too long", 0, behindLength("\x03\x04\x01" + x), api.ErrLimit},
		{"bytes that are too long", 0, behindLength("\x09\x04\x01" + x), api.ErrLimit},
		{"too long where it may not stand", 0, behindLength("\x1f\x04\x01" + x), api.ErrLimit},
		{"too long, and cut off", 0, "\x03\x03\x04\x01", api.ErrLimit},
		{"a first text too long, a second one bad", 0, behindLength("\x26\x04\x01" + x + "\x00\x01\x00"), api.ErrLimit},
		{"a first text bad, a second one too long", 0, behindLength("\x26\x00\x01\x00\x04\x01" + x), api.ErrBad},
		{"it may not stand there", 0, "\x03\x21\x00\x01", api.ErrProto},
		{"nothing may stand there", api.PingReq, "\x05\x26\x00\x00\x00\x00", api.ErrProto},
		{"twice", 0, "\x04\x01\x00\x01\x00", api.ErrProto},
		{"twice, not side by side", api.Connect, "\x09\x19\x00\x26\x00\x00\x00\x00\x19\x01", api.ErrProto},
		{"11 twice", api.Subscribe, "\x04\x0b\x01\x0b\x01", api.ErrProto},
		{"twice, cut off the second time", 0, "\x03\x01\x00\x01", api.ErrBad},
		{"a byte above 1", 0, "\x02\x01\x02", api.ErrProto},
		{"a byte far above 1", api.ConnAck, "\x02\x2a\xff", api.ErrProto},
		{"33 of 0", api.Connect, "\x03\x21\x00\x00", api.ErrProto},
		{"35 of 0", api.Publish, "\x03\x23\x00\x00", api.ErrProto},
		{"39 of 0", api.ConnAck, "\x05\x27\x00\x00\x00\x00", api.ErrProto},
		{"11 of 0", api.Subscribe, "\x02\x0b\x00", api.ErrProto},
		{"a protocol error, then a bad ID", 0, "\x03\x01\x02\x00", api.ErrProto},
		{"a bad ID, then a protocol error", 0, "\x03\x00\x01\x02", api.ErrBad},
		{"one too many", 0, behindLength(eight + "\x01\x00"), api.ErrLimit},
		{"one too many, which is bad", 0, behindLength(eight + "\x00"), api.ErrBad},
		{"one too many, which may not stand there", 0, behindLength(eight + "\x19\x00"), api.ErrProto},
		{"one too many, then a bad one", 0, behindLength(eight + "\x01\x00\x00"), api.ErrLimit},
		{"a bad one behind the end", 0, behindLength(eight) + "\x00", api.OK},
	} {
		if l, k, e := Take(c.place, c.s); e != c.want || e != api.OK && (l != nil || k != 0) {
			t.Errorf("%s: %v, %d, %v, want %v", c.about, l, k, e, c.want)
		}
		checkTake(t, c.place, c.s)
	}
}

// P4.3, P4.4: of bytes that are cut off anywhere, and of those with one byte turned, what the model says.
func TestCutAndTurned(t *testing.T) {
	for place := range 16 {
		var rest string
		for _, r := range table() {
			if slices.Contains(r.places, place) && len(rest) < 20 {
				rest += raw(plain(r, 1))
			}
		}
		s := behindLength(rest)
		for k := range s {
			if l, n, e := Take(place, s[:k]); l != nil || n != 0 || e != api.ErrCut {
				t.Fatalf("Take(%d, %q): %v, %d, %v", place, s[:k], l, n, e)
			}
			if k > 0 {
				checkTake(t, place, behindLength(s[1:k]))
			}
			for b := range 256 {
				checkTake(t, place, s[:k]+string([]byte{byte(b)})+s[k+1:])
			}
		}
	}
}

// R2: nothing is changed or kept, and what is told is one's own.
func TestNothingShared(t *testing.T) {
	l := []api.Prop{{ID: 38, S: "k", V: "v"}, {ID: 1, N: 1}}
	s, _ := Bytes(0, l[:1])
	if l[1] != (api.Prop{ID: 1, N: 1}) {
		t.Errorf("Bytes changes its list: %v", l)
	}
	first, _, _ := Take(0, s)
	first[0].S = "x"
	_ = append(first, l...)
	if second, _, _ := Take(0, s); !slices.Equal(second, l[:1]) {
		t.Errorf("Take tells the same memory twice: %v", second)
	}
}

// P4.1 to P4.4, of any bytes and properties.
func FuzzProp(f *testing.F) {
	f.Add(0, "\x00", 1, 1, "", "")
	f.Add(3, "\x05\x0b\xc1\x02\x0b\x01", 11, 321, "", "")
	f.Add(9, "\x0c\x1f\x00\x03aé\x26\x00\x01k\x00\x00", 38, 0, "k", "v")
	f.Add(1, "\x03\x21\x00\x00", 22, 0, "\xff", "")
	f.Fuzz(func(t *testing.T, place int, s string, id, n int, a, b string) {
		checkTake(t, place, s)
		checkTake(t, place%16, behindLength(s))
		p := api.Prop{ID: id, N: n, S: a, V: b}
		checkPut(t, place, []api.Prop{p})
		checkPut(t, place%16, []api.Prop{p, {ID: id % 43, N: n}, {ID: id % 43, S: a}, {ID: 38, S: a, V: b}})
	})
}
