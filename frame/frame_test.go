package frame

import (
	"encoding/binary"
	"math"
	"math/rand"
	"reflect"
	"slices"
	"strings"
	"testing"

	"fairway/api"
	"fairway/pack"
)

// The model of chapter 6 looks at all that came since the framer was new, however it was parted: wantSize says the size
// of what it begins with, wantStream what there is to be told of it.

// wantSize says how many bytes the packet has in all that s begins with: ErrCut, if its length is cut off.
func wantSize(s string) (int, api.Errno) {
	for k := 1; k <= 4; k++ {
		if len(s) <= k {
			return 0, api.ErrCut
		}
		if s[k] >= 128 {
			continue
		}
		n, _ := binary.Uvarint([]byte(s[1 : 1+k]))
		if len(binary.AppendUvarint(nil, n)) != k {
			return 0, api.ErrBad
		}
		return 1 + k + int(n), api.OK
	}
	return 0, api.ErrBad
}

// wantStream says the packets of all that came, the framer behind them, and what is wrong.
func wantStream(s string, max int) (x api.Framer, l []api.Packet, e api.Errno) {
	at := 0
	for at < len(s) {
		size, e := wantSize(s[at:])
		if e == api.ErrCut {
			break
		}
		if e == api.OK && size > max {
			e = api.ErrLimit
		}
		if e == api.OK && size > len(s)-at {
			break
		}
		var p api.Packet
		if e == api.OK {
			p, _, e = pack.Take(s[at : at+size])
		}
		if e != api.OK {
			return api.Framer{Max: max, Dead: true}, l, e
		}
		l = append(l, p)
		at += size
	}
	return api.Framer{Rest: s[at:], Max: max}, l, api.OK
}

// wantCheck says whether a framer may be.
func wantCheck(f api.Framer) api.Errno {
	size, e := wantSize(f.Rest)
	maxMayBe := 2 <= f.Max && f.Max <= 8192
	unfinished := e == api.ErrCut || e == api.OK && len(f.Rest) < size && size <= f.Max
	if maxMayBe && (f.Dead && f.Rest == "" || !f.Dead && unfinished) {
		return api.OK
	}
	return api.ErrForm
}

// checkFramer holds P6.1 for one framer, and P6.2 where it may not be, or is dead.
func checkFramer(t *testing.T, f api.Framer) {
	t.Helper()
	want := wantCheck(f)
	if e := Check(f); e != want {
		t.Fatalf("Check(%.100v): %v, want %v", f, e, want)
	}
	if want == api.OK && !f.Dead {
		return
	}
	wantFramer := api.Framer{}
	if want == api.OK {
		wantFramer = f
	}
	for _, s := range []string{"", "\xc0", "\xc0\x00", "\x00\x00", "\xff\xff\xff\xff\xff"} {
		if x, l, e := Feed(f, s); x != wantFramer || len(l) != 0 || e != want {
			t.Fatalf("Feed(%.100v, %q): %.100v, %v, %v, want %v", f, s, x, l, e, want)
		}
	}
}

// checkStream holds P6.2 and P6.3 for a stream that comes in parts, whatever was told of the parts ahead.
func checkStream(t *testing.T, max int, parts ...string) {
	t.Helper()
	f, e := New(max)
	if e != api.OK {
		t.Fatalf("New(%d): %v", max, e)
	}
	came := ""
	var all []api.Packet
	for i, s := range parts {
		was := f
		x, l, e := Feed(f, s)
		came += s
		all = append(all, l...)
		f = x
		want, wantAll, bad := wantStream(came, max)
		if was.Dead { // it was told already
			bad = api.OK
		}
		if x != want || e != bad || !reflect.DeepEqual(all, wantAll) {
			t.Fatalf("Feed(%.100v, part %d of %.200q): %.100v, %d packets, %v, want %.100v, %d in all, %v",
				was, i, parts, x, len(l), e, want, len(wantAll), bad)
		}
		if e := Check(x); e != api.OK {
			t.Fatalf("Check(%.100v): %v", x, e)
		}
	}
}

// checkParted holds P6.3 for one stream: whole, byte by byte, and in two at each place.
func checkParted(t *testing.T, max int, s string) {
	t.Helper()
	checkStream(t, max, s)
	parts := make([]string, 0, len(s))
	for i := range len(s) {
		parts = append(parts, s[i:i+1])
	}
	checkStream(t, max, parts...)
	for i := range len(s) + 1 {
		checkStream(t, max, s[:i], s[i:], "")
	}
}

var long = strings.Repeat("x", 1024)

// sized says the bytes of a Publish that has so many in all.
func sized(t *testing.T, size int) string {
	t.Helper()
	pair := api.Prop{ID: 38, S: long, V: long}
	for pairs := range 4 {
		for fill := range 2049 {
			topic := min(fill, 1024)
			p := api.Packet{Kind: api.Publish, Topic: long[:topic], Body: long[:fill-topic], Props: slices.Repeat([]api.Prop{pair}, pairs)}
			if s, _ := pack.Bytes(p); len(s) == size {
				return s
			}
		}
	}
	t.Fatalf("no Publish of %d bytes", size)
	return ""
}

// head says what stands ahead of a Publish that has so many bytes in all, as far as there is such a one.
func head(t *testing.T, size int) string {
	t.Helper()
	for k := 1; k <= 4; k++ {
		s := string(binary.AppendUvarint([]byte{0x30}, uint64(size-1-k)))
		if len(s) == 1+k {
			return s
		}
	}
	t.Fatalf("no packet has %d bytes", size)
	return ""
}

// packets says the bytes of a packet of each kind, of few bytes and of more.
func packets(t *testing.T) []string {
	t.Helper()
	pair := []api.Prop{{ID: 38, S: "k", V: "é"}}
	filters := []api.Filter{{Topic: "a/b", QoS: 2, NoLocal: true}, {Topic: "#", AsSent: true, Handling: 1}}
	will := api.Will{Has: true, QoS: 1, Retain: true, Topic: "w", Body: "\xff\x00", Props: []api.Prop{{ID: 24, N: 7}}}
	var l []string
	for _, p := range []api.Packet{
		{Kind: api.Connect, Clean: true, Keep: 60, Client: "c"},
		{Kind: api.Connect, Client: "c", Will: will, HasUser: true, User: "u", HasPass: true, Pass: "\x00", Props: []api.Prop{{ID: 33, N: 7}}},
		{Kind: api.ConnAck, Present: true, Props: pair},
		{Kind: api.Publish, Topic: "t", Body: "\xc0\x00"},
		{Kind: api.Publish, Dup: true, QoS: 2, Retain: true, ID: 65535, Topic: "t/é", Body: long[:200], Props: pair},
		{Kind: api.PubAck, ID: 1},
		{Kind: api.PubRec, ID: 2, Reason: 151},
		{Kind: api.PubRel, ID: 3, Reason: 146, Props: pair},
		{Kind: api.PubComp, ID: 4},
		{Kind: api.Subscribe, ID: 5, Filters: filters},
		{Kind: api.SubAck, ID: 5, Codes: []int{2, 0, 128}},
		{Kind: api.Unsubscribe, ID: 6, Filters: []api.Filter{{Topic: "a"}, {Topic: "b"}}, Props: pair},
		{Kind: api.UnsubAck, ID: 6, Codes: []int{17, 0}},
		{Kind: api.PingReq},
		{Kind: api.PingResp},
		{Kind: api.Disconnect},
		{Kind: api.Disconnect, Reason: 4, Props: []api.Prop{{ID: 17, N: 9}}},
		{Kind: api.Auth, Reason: 24, Props: pair},
	} {
		s, e := pack.Bytes(p)
		if e != api.OK {
			t.Fatalf("%v: %v", p, e)
		}
		l = append(l, s)
	}
	return l
}

// P6.1: each bound that may be, and those that may not.
func TestMax(t *testing.T) {
	l := []int{math.MinInt, math.MinInt32, -1 << 16, 1 << 16, 1<<32 + 2, math.MaxInt}
	for n := -3; n <= 8192+3; n++ {
		l = append(l, n)
	}
	for _, n := range l {
		want, bad := api.Framer{}, api.ErrForm
		if 2 <= n && n <= 8192 {
			want, bad = api.Framer{Max: n}, api.OK
		}
		if f, e := New(n); f != want || e != bad {
			t.Fatalf("New(%d): %v, %v, want %v", n, f, e, bad)
		}
		for _, f := range []api.Framer{{Max: n}, {Max: n, Dead: true}, {Max: n, Rest: "\x30"}, {Max: n, Rest: "\x30\x80"}} {
			if e := Check(f); e != bad {
				t.Fatalf("Check(%v): %v, want %v", f, e, bad)
			}
			checkFramer(t, f)
		}
	}
}

// P6.1: framers that may be, and that may not, each for one reason.
func TestFramers(t *testing.T) {
	for _, c := range []struct {
		about string
		f     api.Framer
		want  api.Errno
	}{
		{"new", api.Framer{Max: 2}, api.OK},
		{"none", api.Framer{}, api.ErrForm},
		{"dead", api.Framer{Max: 2, Dead: true}, api.OK},
		{"dead, of no bound", api.Framer{Dead: true}, api.ErrForm},
		{"dead, with a rest", api.Framer{Max: 8, Rest: "\x30", Dead: true}, api.ErrForm},
		{"dead, with a whole packet", api.Framer{Max: 8, Rest: "\xc0\x00", Dead: true}, api.ErrForm},
		{"one byte of any kind", api.Framer{Max: 2, Rest: "\x00"}, api.OK},
		{"a length that is cut off", api.Framer{Max: 8192, Rest: "\x30\xff"}, api.OK},
		{"a length that is cut off, also above Max when it is told", api.Framer{Max: 2, Rest: "\x30\xff\xff\xff"}, api.OK},
		{"a length that ends in 0", api.Framer{Max: 8192, Rest: "\x30\xff\x00"}, api.ErrForm},
		{"a length of too many bytes", api.Framer{Max: 8192, Rest: "\x30\xff\xff\xff\xff"}, api.ErrForm},
		{"fewer bytes than told", api.Framer{Max: 4, Rest: "\x30\x02x"}, api.OK},
		{"fewer bytes than told, more than Max", api.Framer{Max: 3, Rest: "\x30\x02x"}, api.ErrForm},
		{"as many bytes as told", api.Framer{Max: 8192, Rest: "\x30\x02xy"}, api.ErrForm},
		{"more bytes than told", api.Framer{Max: 8192, Rest: "\x30\x02xyz"}, api.ErrForm},
		{"a packet of no bytes behind its length", api.Framer{Max: 8192, Rest: "\xc0\x00"}, api.ErrForm},
		{"a kind that is none, as its packet is not whole", api.Framer{Max: 8192, Rest: "\x00\x01"}, api.OK},
		{"the greatest packet but a byte", api.Framer{Max: 8192, Rest: "\x30\xfd\x3f" + strings.Repeat("x", 8188)}, api.OK},
		{"the greatest packet", api.Framer{Max: 8192, Rest: "\x30\xfd\x3f" + strings.Repeat("x", 8189)}, api.ErrForm},
		{"a packet beyond the greatest", api.Framer{Max: 8192, Rest: "\x30\xfe\x3f"}, api.ErrForm},
		{"the greatest length", api.Framer{Max: 8192, Rest: "\x30\xff\xff\xff\x7f"}, api.ErrForm},
	} {
		if e := Check(c.f); e != c.want {
			t.Errorf("%s: %v, want %v", c.about, e, c.want)
		}
		checkFramer(t, c.f)
	}
}

// P6.1: rests around each size of a packet, at bounds around it.
func TestRestsAndBounds(t *testing.T) {
	for _, size := range []int{2, 3, 4, 128, 129, 131, 132, 8191, 8192, 8193, 16386, 16388, 1 << 20} {
		ahead := head(t, size)
		long := ahead + strings.Repeat("x", size)
		for bound := size - 2; bound <= size+2; bound++ {
			for _, n := range []int{0, 1, 2, len(ahead), len(ahead) + 1, size - 2, size - 1, size, size + 1} {
				checkFramer(t, api.Framer{Max: bound, Rest: long[:n]})
				checkFramer(t, api.Framer{Max: bound, Rest: long[:n], Dead: true})
			}
		}
	}
}

// P6.1 and P6.2: every rest of up to two bytes behind the first one.
func TestEveryRest(t *testing.T) {
	for a := range 256 {
		for b := range 256 {
			rest := string([]byte{0xc0, byte(a), byte(b)})
			for _, max := range []int{2, 3, 4, 129, 130, 131, 8192} {
				checkFramer(t, api.Framer{Max: max, Rest: rest[:2]})
				checkFramer(t, api.Framer{Max: max, Rest: rest})
				checkStream(t, max, rest[:1], rest[1:])
			}
		}
	}
}

// P6.2: the document's example, whole and in two.
func TestExample(t *testing.T) {
	f, _ := New(8192)
	f, l, e := Feed(f, "\xc0")
	if want := (api.Framer{Rest: "\xc0", Max: 8192}); f != want || len(l) != 0 || e != api.OK {
		t.Errorf("192: %v, %v, %v", f, l, e)
	}
	f, l, e = Feed(f, "\x00")
	if want := (api.Framer{Max: 8192}); f != want || len(l) != 1 || l[0].Kind != api.PingReq || e != api.OK {
		t.Errorf("192, then 0: %v, %v, %v", f, l, e)
	}
	checkParted(t, 8192, "\xc0\x00")
	checkParted(t, 2, "\xc0\x00\xd0\x00\xc0")
}

// P6.2 and P6.3: packets of all kinds, alone and one behind the other, however they are parted.
func TestPackets(t *testing.T) {
	l := packets(t)
	for i, s := range l {
		checkParted(t, 8192, s)
		checkParted(t, len(s), s)
		checkParted(t, max(len(s)-1, 2), s)
		checkParted(t, 8192, s+l[(i+1)%len(l)])
	}
	all := strings.Join(l, "")
	checkParted(t, 8192, all)
	checkParted(t, 8192, all+all[:7])
	f, _ := New(8192)
	if _, told, e := Feed(f, all); len(told) != len(l) || e != api.OK {
		t.Errorf("%d of %d packets, %v", len(told), len(l), e)
	}
}

// P6.2: a packet that is just as long as may be, or longer by a byte, at each width of a length.
func TestAtTheBound(t *testing.T) {
	ping := "\xc0\x00"
	for _, size := range []int{5, 6, 128, 129, 131, 132, 2000, 8191, 8192} {
		s := sized(t, size)
		for max := size - 2; max <= min(size+2, 8192); max++ {
			wantN, want := 3, api.OK
			if size > max {
				wantN, want = 1, api.ErrLimit
			}
			f, _ := New(max)
			if x, l, e := Feed(f, ping+s+ping); len(l) != wantN || e != want || x.Dead != (want != api.OK) {
				t.Errorf("%d bytes, at most %d: %d packets, %v, want %d, %v", size, max, len(l), e, wantN, want)
			}
			checkStream(t, max, ping+s+ping)
			checkStream(t, max, ping+s[:1], s[1:2], s[2:3], s[3:size-1], s[size-1:]+ping)
			checkStream(t, max, ping+s[:2], s[2:]+ping)
		}
	}
	for _, size := range []int{8193, 16386, 16388, 2097155, 2097157, 268435460} {
		checkParted(t, 8192, ping+head(t, size)+ping)
	}
}

// P6.2: what is wrong, and how many packets are told ahead of it.
func TestErrors(t *testing.T) {
	five := strings.Repeat("\x00\x01a\x00", 5)
	body := strings.Repeat("b", 1025)
	for _, c := range []struct {
		about string
		max   int
		s     string
		n     int
		want  api.Errno
	}{
		{"nothing", 8192, "", 0, api.OK},
		{"a byte", 8192, "\x00", 0, api.OK},
		{"a kind that is none", 8192, "\x00\x00", 0, api.ErrBad},
		{"a kind that is none, not whole", 8192, "\x00\x01", 0, api.OK},
		{"flags that are wrong", 8192, "\xc0\x00\xc1\x00\xc0\x00", 1, api.ErrBad},
		{"a length that ends in 0", 8192, "\xc0\x00\xc0\x80\x00", 1, api.ErrBad},
		{"a length of too many bytes", 8192, "\xc0\x00\xc0\x00\xc0\x80\x80\x80\x80", 2, api.ErrBad},
		{"a length of too many bytes, at a small bound", 2, "\xc0\xff\xff\xff\xff", 0, api.ErrBad},
		{"a length that is cut off", 2, "\xc0\x00\xc0\xff\xff\xff", 1, api.OK},
		{"a length that tells too much", 4, "\xd0\x00\xc0\x03", 1, api.ErrLimit},
		{"a length that tells too much, of a kind that is none", 4, "\xd0\x00\x00\x03\x00\x00\x00", 1, api.ErrLimit},
		{"a length that tells as much as may be", 4, "\xd0\x00\xc0\x02x", 1, api.OK},
		{"a length's bytes are counted", 130, "\xc0\x80\x01", 0, api.ErrLimit},
		{"bytes left over", 8192, "\xc0\x01\x00", 0, api.ErrBad},
		{"a part that is cut off", 8192, "\x40\x01\x00\x01", 0, api.ErrBad},
		{"a protocol of another name", 8192, "\x10\x0e\x00\x04MQTX\x05\x02\x00\x3c\x00\x00\x01c", 0, api.ErrProto},
		{"no filter", 8192, "\xc0\x00\x82\x03\x00\x01\x00", 1, api.ErrProto},
		{"too many filters", 8192, "\xc0\x00\x82\x17\x00\x01\x00" + five, 1, api.ErrLimit},
		{"a body that is too long", 8192, "\x30\x84\x08\x00\x00\x00" + body, 0, api.ErrLimit},
		{"the first of two errors", 8192, "\xc0\x00\x82\x03\x00\x01\x00\x00\x00", 1, api.ErrProto},
	} {
		want := api.Framer{Max: c.max, Dead: true}
		f, _ := New(c.max)
		x, l, e := Feed(f, c.s)
		if c.want == api.OK {
			want = api.Framer{Max: c.max, Rest: c.s[2*c.n:]}
		}
		if x != want || len(l) != c.n || e != c.want {
			t.Errorf("%s: %.100v, %d packets, %v, want %d, %v", c.about, x, len(l), e, c.n, c.want)
		}
		checkParted(t, c.max, c.s)
		checkParted(t, c.max, c.s+"\xc0\x00")
		checkParted(t, c.max, "\xd0\x00"+c.s)
	}
}

// P6.2: a dead framer stays so, and tells nothing more.
func TestDead(t *testing.T) {
	f, _ := New(64)
	f, l, e := Feed(f, "\xc0\x00\x00\x00\xc0\x00")
	dead := api.Framer{Max: 64, Dead: true}
	if f != dead || len(l) != 1 || e != api.ErrBad {
		t.Fatalf("%v, %v, %v", f, l, e)
	}
	for _, s := range []string{"\xc0\x00", "", "\x00\x00", "\xc0", "\xff\xff\xff\xff\xff\xff"} {
		if f, l, e = Feed(f, s); f != dead || len(l) != 0 || e != api.OK {
			t.Errorf("%q: %v, %v, %v", s, f, l, e)
		}
	}
}

// P6.2 and P6.3: all streams of some bytes that mean much.
func TestShortStreams(t *testing.T) {
	letters := []byte{0x00, 0x01, 0x02, 0x30, 0x40, 0x80, 0xc0, 0xe0, 0xff}
	var grow func(s string)
	grow = func(s string) {
		for _, max := range []int{2, 3, 8192} {
			checkStream(t, max, s)
			checkStream(t, max, strings.SplitAfter(s, "\x00")...)
			checkStream(t, max, s[:len(s)/2], s[len(s)/2:])
		}
		if len(s) < 5 {
			for _, b := range letters {
				grow(s + string([]byte{b}))
			}
		}
	}
	grow("")
}

// P6.3: long streams of whole and spoilt packets, in parts of any sizes.
func TestParts(t *testing.T) {
	r := rand.New(rand.NewSource(6))
	kinds := packets(t)
	for range 2000 {
		s := ""
		for range r.Intn(12) {
			s += kinds[r.Intn(len(kinds))]
		}
		if s != "" && r.Intn(2) == 0 {
			i := r.Intn(len(s))
			s = s[:i] + string([]byte{byte(r.Intn(256))}) + s[i+1:]
		}
		max := 2 + r.Intn(300)
		if r.Intn(2) == 0 {
			max = 8192
		}
		checkStream(t, max, s)
		checkStream(t, max, parted(r, s)...)
	}
}

// parted says a text in parts, some of them empty.
func parted(r *rand.Rand, s string) []string {
	var l []string
	for s != "" {
		n := r.Intn(min(len(s), 1<<r.Intn(8)) + 1)
		l = append(l, s[:n])
		s = s[n:]
	}
	return append(l, "")
}

// R2: what is told is one's own.
func TestNothingShared(t *testing.T) {
	s := strings.Join(packets(t), "")
	f, _ := New(8192)
	x, first, _ := Feed(f, s+"\xc0")
	for i := range first {
		p := &first[i]
		for _, l := range []*[]api.Prop{&p.Props, &p.Will.Props} {
			*l = append(*l, api.Prop{ID: 99})
			(*l)[0].ID = 98
		}
		p.Codes = append(p.Codes, 99)
		p.Codes[0] = 98
		p.Filters = append(p.Filters, api.Filter{QoS: 9})
		p.Filters[0].Topic = "?"
	}
	_ = append(first, api.Packet{Kind: 99})
	_, want, _ := wantStream(s, 8192)
	if y, second, e := Feed(f, s+"\xc0"); y != x || !reflect.DeepEqual(second, want) || e != api.OK {
		t.Errorf("Feed tells the same memory twice: %v", second)
	}
	if want := (api.Framer{Max: 8192}); f != want {
		t.Errorf("Feed changes its framer: %v", f)
	}
}

// P6.1 to P6.3, of any bytes.
func FuzzFrame(f *testing.F) {
	f.Add("\xc0\x00\xd0\x00\x30\x05\x00\x01t\x00b", 8192, 3, 5)
	f.Add("\xc0\x80\x00", 2, 1, 2)
	f.Add("\x30\xfd\x3f", 8192, 0, 9)
	f.Fuzz(func(t *testing.T, s string, max, i, j int) {
		checkFramer(t, api.Framer{Max: max, Rest: s})
		checkFramer(t, api.Framer{Max: max, Rest: s, Dead: true})
		if max < 2 || max > 8192 || i < 0 || i > j || j > len(s) {
			return
		}
		checkStream(t, max, s)
		checkStream(t, max, s[:i], s[i:j], s[j:])
	})
}
