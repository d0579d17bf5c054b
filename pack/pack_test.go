package pack

import (
	"math"
	"reflect"
	"slices"
	"strings"
	"testing"

	"fairway/api"
)

var long = strings.Repeat("x", 1024)

func kinds() []int {
	var l []int
	for kind := api.Connect; kind <= api.Auth; kind++ {
		l = append(l, kind)
	}
	return l
}

func has(kind int, field string) bool {
	return slices.Contains(kindsFields(kind), field)
}

// least says a packet of a kind that has no more than it must.
func least(kind int) api.Packet {
	p := api.Packet{Kind: kind}
	if has(kind, "ID") && kind != api.Publish {
		p.ID = 258
	}
	if has(kind, "Filters") {
		p.Filters = []api.Filter{{Topic: "a/b"}}
	}
	if has(kind, "Codes") {
		p.Codes = []int{7}
	}
	return p
}

// most says a packet of a kind that has all that it may have.
func most(kind int) api.Packet {
	p := least(kind)
	if has(kind, "Props") {
		p.Props = []api.Prop{{ID: 38, S: "k", V: "v"}, {ID: 38}}
	}
	if has(kind, "Reason") {
		p.Reason = 131
	}
	switch kind {
	case api.Connect:
		will := api.Will{Has: true, QoS: 2, Retain: true, Topic: "w", Body: "\x00\xff", Props: []api.Prop{{ID: 24, N: 1}}}
		p.Client, p.Clean, p.Keep, p.Will = "é", true, 772, will
		p.HasUser, p.User, p.HasPass, p.Pass = true, "u", true, "\xff"
	case api.ConnAck:
		p.Present = true
	case api.Publish:
		p.Dup, p.QoS, p.Retain, p.ID, p.Topic, p.Body = true, 2, true, 258, "t", "\x00\xff"
	case api.Subscribe:
		p.Filters = append(p.Filters, api.Filter{Topic: "#", QoS: 2, NoLocal: true, AsSent: true, Handling: 2}, api.Filter{QoS: 1, Handling: 1})
	case api.Unsubscribe:
		p.Filters = append(p.Filters, api.Filter{Topic: "#"}, api.Filter{})
	case api.SubAck, api.UnsubAck:
		p.Codes = []int{0, 255, 128, 2}
	}
	return p
}

// numbers says numbers near the edges of a byte, of two bytes, and of what QoS and Handling may be.
func numbers() []int {
	return []int{math.MinInt, -65535, -256, -1, 0, 1, 2, 3, 4, 5, 127, 128, 255, 256, 257, 258, 65534, 65535, 65536, 65537, 1 << 32, math.MaxInt}
}

func texts() []string {
	return []string{"", "a", "é", "\x00", "\xff", "é"[:1], long, long + "x"}
}

func propLists() [][]api.Prop {
	pair := api.Prop{ID: 38, S: "k", V: "v"}
	l := [][]api.Prop{
		nil, {}, {pair}, slices.Repeat([]api.Prop{pair}, 8), slices.Repeat([]api.Prop{pair}, 9), {{ID: 38, N: 1}}, {{ID: 38, S: "\xff"}},
		{{}}, {{ID: 1, N: 2}}, {{ID: 33}}, {{ID: 11, N: 1}, {ID: 11, N: 1}}, {pair, {ID: 31, S: "r"}}, {{ID: 31}, {ID: 31}},
	}
	for id := range 44 {
		l = append(l, []api.Prop{{ID: id, N: 1}}, []api.Prop{{ID: id, S: "s"}})
	}
	return l
}

func filterLists() [][]api.Filter {
	four := []api.Filter{{Topic: "a"}, {Topic: "b"}, {}, {Topic: "a"}}
	l := [][]api.Filter{nil, {}, {{}}, four, append(four[:4:4], api.Filter{}), {{Topic: "a", NoLocal: true}}, {{Topic: "a", AsSent: true}}}
	for _, n := range numbers() {
		l = append(l, []api.Filter{{Topic: "a", QoS: n}}, []api.Filter{{Topic: "a"}, {Topic: "b", Handling: n}})
	}
	for _, s := range texts() {
		l = append(l, []api.Filter{{Topic: s}}, []api.Filter{{Topic: "a"}, {Topic: s, QoS: 1}})
	}
	return l
}

func codeLists() [][]int {
	l := [][]int{nil, {}, {0, 1, 2, 255}, {0, 1, 2, 3, 4}}
	for _, n := range numbers() {
		l = append(l, []int{n}, []int{0, n})
	}
	return l
}

func wills() []api.Will {
	l := []api.Will{{}, {Has: true}, {Has: true, Topic: "t"}, {Retain: true}, {Topic: "t"}, {Body: "b"}, {Props: []api.Prop{}}, {Has: true, Retain: true, Topic: "t", Body: "b"}}
	for _, n := range numbers() {
		l = append(l, api.Will{Has: true, QoS: n, Topic: "t"}, api.Will{QoS: n})
	}
	for _, s := range texts() {
		l = append(l, api.Will{Has: true, Topic: s}, api.Will{Has: true, Topic: "t", Body: s})
	}
	for _, props := range propLists() {
		l = append(l, api.Will{Has: true, Topic: "t", Props: props}, api.Will{Props: props})
	}
	return l
}

// values says what a field may be set to, by its type: what may be, its edges, and what may not.
func values(field string) []any {
	switch field {
	case "Dup", "Retain", "Present", "Clean", "HasUser", "HasPass":
		return []any{false, true}
	case "Topic", "Body", "Client", "User", "Pass":
		return anys(texts())
	case "Codes":
		return anys(codeLists())
	case "Filters":
		return anys(filterLists())
	case "Props":
		return anys(propLists())
	case "Will":
		return anys(wills())
	}
	return anys(numbers())
}

func anys[T any](l []T) []any {
	var out []any
	for _, v := range l {
		out = append(out, v)
	}
	return out
}

// fields says the names of all fields of a packet.
func fields() []string {
	var l []string
	for f := range reflect.TypeFor[api.Packet]().Fields() {
		l = append(l, f.Name)
	}
	return l
}

// with says a packet with a field set.
func with(p api.Packet, field string, v any) api.Packet {
	reflect.ValueOf(&p).Elem().FieldByName(field).Set(reflect.ValueOf(v))
	return p
}

// P5.1, P5.3: each kind, with each field set to each value: its own ones and those that it does not have.
func TestOneField(t *testing.T) {
	for _, kind := range kinds() {
		for _, p := range []api.Packet{least(kind), most(kind)} {
			if !wantMayBe(p) {
				t.Fatalf("%v should be one that may be", p)
			}
			checkPut(t, p)
			for _, field := range fields() {
				for _, v := range values(field) {
					checkPut(t, with(p, field, v))
				}
			}
		}
	}
}

// P5.1, P5.3: each kind, with any two fields set to any values of few.
func TestTwoFields(t *testing.T) {
	few := func(field string) []any {
		l := values(field)
		return l[:min(len(l), 24)]
	}
	for _, kind := range kinds() {
		for i, a := range fields() {
			for _, b := range fields()[:i] {
				for _, v := range few(a) {
					p := with(least(kind), a, v)
					for _, w := range few(b) {
						checkPut(t, with(p, b, w))
					}
				}
			}
		}
	}
}

// P5.1: a kind that is none, also with what others have.
func TestNoKind(t *testing.T) {
	for _, n := range []int{math.MinInt, -15, -1, 0, 16, 17, 18, 19, 256 + api.PingReq, math.MaxInt} {
		checkPut(t, api.Packet{Kind: n})
		for _, kind := range kinds() {
			checkPut(t, with(most(kind), "Kind", n))
		}
	}
}

// P5.1, P5.2: written out.
func TestTable(t *testing.T) {
	for _, c := range []struct {
		p    api.Packet
		want string
	}{
		{api.Packet{Kind: api.PingReq}, "\xc0\x00"},
		{api.Packet{Kind: api.PingResp}, "\xd0\x00"},
		{api.Packet{Kind: api.Connect}, "\x10\x0d\x00\x04MQTT\x05\x00\x00\x00\x00\x00\x00"},
		{api.Packet{Kind: api.Connect, Clean: true, Keep: 60, Client: "c"}, "\x10\x0e\x00\x04MQTT\x05\x02\x00\x3c\x00\x00\x01c"},
		{api.Packet{Kind: api.Connect, HasUser: true, HasPass: true}, "\x10\x11\x00\x04MQTT\x05\xc0\x00\x00\x00\x00\x00\x00\x00\x00\x00"},
		{api.Packet{Kind: api.Connect, HasPass: true, Pass: "\xff"}, "\x10\x10\x00\x04MQTT\x05\x40\x00\x00\x00\x00\x00\x00\x01\xff"},
		{most(api.Connect), "\x10\x2e\x00\x04MQTT\x05\xf6\x03\x04\x0c\x26\x00\x01k\x00\x01v\x26\x00\x00\x00\x00\x00\x02é\x05\x18\x00\x00\x00\x01\x00\x01w\x00\x02\x00\xff\x00\x01u\x00\x01\xff"},
		{api.Packet{Kind: api.ConnAck}, "\x20\x03\x00\x00\x00"},
		{api.Packet{Kind: api.ConnAck, Present: true, Reason: 133, Props: []api.Prop{{ID: 33, N: 16}}}, "\x20\x06\x01\x85\x03\x21\x00\x10"},
		{api.Packet{Kind: api.Publish}, "\x30\x03\x00\x00\x00"},
		{api.Packet{Kind: api.Publish, Retain: true, Topic: "a", Body: "xy"}, "\x31\x06\x00\x01a\x00xy"},
		{api.Packet{Kind: api.Publish, QoS: 1, Topic: "a", ID: 258}, "\x32\x06\x00\x01a\x01\x02\x00"},
		{api.Packet{Kind: api.Publish, Dup: true, QoS: 2, ID: 65535, Props: []api.Prop{{ID: 35, N: 1}}, Body: "\xff"}, "\x3c\x09\x00\x00\xff\xff\x03\x23\x00\x01\xff"},
		{api.Packet{Kind: api.PubAck, ID: 1}, "\x40\x02\x00\x01"},
		{api.Packet{Kind: api.PubRec, ID: 1, Reason: 16}, "\x50\x03\x00\x01\x10"},
		{api.Packet{Kind: api.PubRel, ID: 1, Props: []api.Prop{{ID: 31, S: "r"}}}, "\x62\x08\x00\x01\x00\x04\x1f\x00\x01r"},
		{api.Packet{Kind: api.PubComp, ID: 1, Reason: 146}, "\x70\x03\x00\x01\x92"},
		{most(api.Subscribe), "\x82\x1c\x01\x02\x0c\x26\x00\x01k\x00\x01v\x26\x00\x00\x00\x00\x00\x03a/b\x00\x00\x01#\x2e\x00\x00\x11"},
		{api.Packet{Kind: api.SubAck, ID: 1, Codes: []int{0, 143}}, "\x90\x05\x00\x01\x00\x00\x8f"},
		{api.Packet{Kind: api.Unsubscribe, ID: 1, Filters: []api.Filter{{Topic: "a"}, {Topic: "b"}}}, "\xa2\x09\x00\x01\x00\x00\x01a\x00\x01b"},
		{api.Packet{Kind: api.UnsubAck, ID: 1, Codes: []int{17}}, "\xb0\x04\x00\x01\x00\x11"},
		{api.Packet{Kind: api.Disconnect}, "\xe0\x00"},
		{api.Packet{Kind: api.Disconnect, Reason: 4}, "\xe0\x01\x04"},
		{api.Packet{Kind: api.Disconnect, Props: []api.Prop{{ID: 17, N: 1}}}, "\xe0\x07\x00\x05\x11\x00\x00\x00\x01"},
		{api.Packet{Kind: api.Auth}, "\xf0\x00"},
		{api.Packet{Kind: api.Auth, Reason: 24, Props: []api.Prop{{ID: 21, S: "m"}}}, "\xf0\x06\x18\x04\x15\x00\x01m"},
	} {
		if s, e := Bytes(c.p); s != c.want || e != api.OK {
			t.Errorf("Bytes(%v): %q, %v, want %q", c.p, s, e, c.want)
		}
		if p, k, e := Take(c.want); !same(p, c.p) || k != len(c.want) || e != api.OK {
			t.Errorf("Take(%q): %v, %d, %v, want %v", c.want, p, k, e, c.p)
		}
	}
}

// P5.2, P5.3: what may be written in two ways is taken as one.
func TestTwoWays(t *testing.T) {
	for _, c := range []struct{ longer, shorter string }{
		{"\x40\x03\x00\x01\x00", "\x40\x02\x00\x01"},
		{"\x40\x04\x00\x01\x00\x00", "\x40\x02\x00\x01"},
		{"\x50\x04\x00\x01\x10\x00", "\x50\x03\x00\x01\x10"},
		{"\x62\x04\x00\x01\x00\x00", "\x62\x02\x00\x01"},
		{"\x70\x03\x00\x01\x00", "\x70\x02\x00\x01"},
		{"\xe0\x01\x00", "\xe0\x00"},
		{"\xe0\x02\x00\x00", "\xe0\x00"},
		{"\xe0\x02\x04\x00", "\xe0\x01\x04"},
		{"\xf0\x02\x00\x00", "\xf0\x00"},
		{"\xf0\x02\x18\x00", "\xf0\x01\x18"},
	} {
		p, k, e := Take(c.longer)
		if q, n, f := Take(c.shorter); !same(p, q) || k != len(c.longer) || n != len(c.shorter) || e != api.OK || f != api.OK {
			t.Errorf("%q and %q: %v and %v", c.longer, c.shorter, p, q)
		}
		if s, e := Bytes(p); s != c.shorter || e != api.OK {
			t.Errorf("Bytes(Take(%q)): %q, %v", c.longer, s, e)
		}
	}
}

// withSize says a packet of a kind that has just so many bytes.
func withSize(kind, size int) api.Packet {
	p := least(kind)
	full := api.Prop{ID: 38, S: long, V: long}
	p.Props = []api.Prop{full, full, full, {ID: 38, S: long}}
	p.Props[3].V = long[:size-len(raw(p))]
	return p
}

// P5.1, P5.2: a packet's bytes, all of them counted, are at most MaxPacket.
func TestMaxPacket(t *testing.T) {
	for _, kind := range kinds() {
		if !has(kind, "Props") {
			continue
		}
		for size := 8190; size < 8196; size++ {
			p := withSize(kind, size)
			if len(raw(p)) != size || wantMayBe(p) != (size <= 8192) {
				t.Fatalf("%d bytes instead of %d", len(raw(p)), size)
			}
			checkPut(t, p)
			checkTake(t, raw(p))
			checkTake(t, raw(p)[:size-1])
		}
	}
	for _, first := range []int{0, 0x10, 0x30, 0x36, 0xc0, 0xff} {
		for _, size := range []string{"\xfd\x3f", "\xfe\x3f", "\xff\x3f", "\x80\x40", "\xff\xff\xff\x7f", "\x80\x80\x80\x01"} {
			for _, n := range []int{0, 1, 8188, 8189, 8190, 9000} {
				checkTake(t, one(first)+size+strings.Repeat("\x00", n))
			}
		}
	}
}

// P5.2: every first byte, with what is behind it whole, cut or wrong.
func TestFirstByte(t *testing.T) {
	rests := []string{"", "\x00", "\x01", "\x00\x01", "\x00\x01\x00", "\x00\x01a\x00", "\x00\x01a\x00\x01\x00", "\x00\x00\x00\x00\x01", "\x00\x01\x00\x00\x01a\x00"}
	for _, kind := range kinds() {
		for _, p := range []api.Packet{least(kind), most(kind)} {
			s := raw(p)
			rests = append(rests, s[2:])
		}
	}
	for first := range 256 {
		for _, rest := range rests {
			checkTake(t, whole(first, rest))
			checkTake(t, one(first)+rest)
		}
	}
}

// samples says packets that may be, of all kinds, of few bytes.
func samples() []api.Packet {
	var l []api.Packet
	for _, kind := range kinds() {
		for _, p := range []api.Packet{least(kind), most(kind)} {
			l = append(l, p)
			for _, field := range kindsFields(kind) {
				for _, v := range values(field) {
					if q := with(p, field, v); wantMayBe(q) && len(raw(q)) < 128 {
						l = append(l, q)
					}
				}
			}
		}
	}
	return l
}

// P5.2: packets that are cut off, ahead of the end that they tell of or of one that comes too early, and with a byte more.
func TestCut(t *testing.T) {
	for _, p := range samples() {
		s := raw(p)
		for k := range s {
			if _, n, e := Take(s[:k]); n != 0 || e != api.ErrCut {
				t.Fatalf("Take(%q): %d, %v", s[:k], n, e)
			}
			if k > 1 {
				checkTake(t, whole(int(s[0]), s[2:k]))
			}
		}
		for _, more := range []string{"\x00", "a", "\xff", "\x00\x00", "\x00\x01a", "\x00\x01a\x00"} {
			checkTake(t, whole(int(s[0]), s[2:]+more))
		}
	}
}

// P5.2: packets with any byte turned.
func TestTurned(t *testing.T) {
	for _, kind := range kinds() {
		for _, p := range []api.Packet{least(kind), most(kind)} {
			s := raw(p)
			for k := range s {
				for b := range 256 {
					turned := s[:k] + one(b) + s[k+1:]
					checkTake(t, turned)
					checkTake(t, turned+strings.Repeat("\x00", 256))
				}
			}
		}
	}
}

// P5.2: the bytes of packets that may not be.
func TestTakeWrong(t *testing.T) {
	for _, kind := range kinds() {
		for _, p := range []api.Packet{least(kind), most(kind)} {
			for _, field := range kindsFields(kind) {
				for _, v := range values(field) {
					checkTake(t, raw(with(p, field, v)))
				}
			}
		}
	}
}

// P5.2: every byte of a Connect's flags, with what they ask for, with all, and with nothing behind them.
func TestLoginFlags(t *testing.T) {
	head := "\x00\x04MQTT\x05"
	for flags := range 256 {
		for _, behind := range []string{
			"", "\x00\x00\x00\x00\x00", "\x00\x00\x00\x00\x00\x00\x00\x01w\x00\x00", "\x00\x00\x00\x00\x00\x00\x00\x00\x00\x00",
			"\x00\x00\x00\x00\x00\x00\x01u", "\x00\x00\x00\x00\x00\x00\x01u\x00\x01\xff", "\x00\x00\x00\x00\x00\x00\x01\xff",
			"\x00\x00\x00\x00\x00\x00\x00\x01w\x00\x00\x00\x01u\x00\x01\xff",
		} {
			checkTake(t, whole(0x10, head+one(flags)+behind))
		}
	}
}

// P5.2: every byte of a filter.
func TestFilterByte(t *testing.T) {
	for n := range 256 {
		checkTake(t, whole(0x82, "\x00\x01\x00\x00\x01a"+one(n)))
		checkTake(t, whole(0x82, "\x00\x01\x00\x00\x01a\x00\x00\x00"+one(n)+"\x00\x01b"))
	}
}

// P5.2: its errors one by one, and in which order.
func TestTakeErrors(t *testing.T) {
	filters := strings.Repeat("\x00\x01a\x00", 4)
	topics := strings.Repeat("\x00\x01a", 4)
	tooLong := "\x04\x01" + long + "x"
	for _, c := range []struct {
		about string
		s     string
		want  api.Errno
	}{
		{"nothing", "", api.ErrCut},
		{"no length", "\xc0", api.ErrCut},
		{"half a length", "\xc0\x80", api.ErrCut},
		{"no length, and a kind that is none", "\x00", api.ErrCut},
		{"a length with a needless byte", "\xc0\x80\x00", api.ErrBad},
		{"a length of five bytes", "\xc0\x80\x80\x80\x80\x01", api.ErrBad},
		{"too many bytes, and not all there", "\x30\xfe\x3f", api.ErrLimit},
		{"too many bytes, and a kind that is none", "\x00\xff\xff\xff\x7f", api.ErrLimit},
		{"as many as may be, but not all there", "\x30\xfd\x3f", api.ErrCut},
		{"fewer bytes than it says, and a kind that is none", "\x00\x01", api.ErrCut},
		{"a kind that is none", "\x00\x00", api.ErrBad},
		{"flags of a PingReq", "\xc1\x00", api.ErrBad},
		{"a PubRel without its flag", "\x60\x02\x00\x01", api.ErrBad},
		{"a Subscribe without its flag, and without filters", "\x80\x03\x00\x01\x00", api.ErrBad},
		{"a Connect with a flag, and another name", whole(0x12, "\x00\x04MQTX\x05"), api.ErrBad},
		{"a QoS of 3", "\x36\x06\x00\x01a\x00\x01\x00", api.ErrBad},
		{"a QoS of 3, and a Body that is too long", whole(0x36, "\x00\x00\x00\x01\x00"+long+"x"), api.ErrBad},
		{"Dup of QoS 0", "\x38\x04\x00\x01a\x00", api.ErrBad},
		{"an empty Connect", "\x10\x00", api.ErrBad},
		{"half a name", "\x10\x05\x00\x04MQT", api.ErrBad},
		{"a bad name", whole(0x10, "\x00\x04MQT\x00\x05\x00\x00\x00\x00\x00\x00"), api.ErrBad},
		{"a name that is too long", whole(0x10, tooLong+"\x05\x00\x00\x00\x00\x00\x00"), api.ErrLimit},
		{"another name", whole(0x10, "\x00\x06MQIsdp\x03\x00\x00\x00\x00\x00\x00"), api.ErrProto},
		{"another name, and nothing behind it", whole(0x10, "\x00\x04mqtt"), api.ErrProto},
		{"no name", whole(0x10, "\x00\x00\x05"), api.ErrProto},
		{"no version", whole(0x10, "\x00\x04MQTT"), api.ErrBad},
		{"another version", whole(0x10, "\x00\x04MQTT\x04\x00\x00\x00\x00\x00\x00"), api.ErrProto},
		{"another version, and a flag that is none", whole(0x10, "\x00\x04MQTT\x04\x01"), api.ErrProto},
		{"a flag that is none", whole(0x10, "\x00\x04MQTT\x05\x01\x00\x00\x00\x00\x00"), api.ErrBad},
		{"a will's QoS of 3", whole(0x10, "\x00\x04MQTT\x05\x1c\x00\x00\x00\x00\x00\x00\x00\x01w\x00\x00"), api.ErrBad},
		{"a QoS without a will", whole(0x10, "\x00\x04MQTT\x05\x08\x00\x00\x00\x00\x00"), api.ErrBad},
		{"a retain without a will", whole(0x10, "\x00\x04MQTT\x05\x20\x00\x00\x00\x00\x00"), api.ErrBad},
		{"a flag that is none, and a wrong property", whole(0x10, "\x00\x04MQTT\x05\x01\x00\x00\x02\x01\x00\x00\x00"), api.ErrBad},
		{"half a keep", whole(0x10, "\x00\x04MQTT\x05\x00\x00"), api.ErrBad},
		{"a property of another place", whole(0x10, "\x00\x04MQTT\x05\x00\x00\x00\x02\x01\x00\x00\x00"), api.ErrProto},
		{"a property that is none", whole(0x10, "\x00\x04MQTT\x05\x00\x00\x00\x02\x00\x00\x00\x00"), api.ErrBad},
		{"properties that are cut off", whole(0x10, "\x00\x04MQTT\x05\x00\x00\x00\x05\x21\x00\x01"), api.ErrBad},
		{"properties without their length", whole(0x10, "\x00\x04MQTT\x05\x00\x00\x00"), api.ErrBad},
		{"no client", whole(0x10, "\x00\x04MQTT\x05\x00\x00\x00\x00"), api.ErrBad},
		{"a client that is too long", whole(0x10, "\x00\x04MQTT\x05\x00\x00\x00\x00"+tooLong), api.ErrLimit},
		{"a client that is too long, and cut off", whole(0x10, "\x00\x04MQTT\x05\x00\x00\x00\x00\x04\x01x"), api.ErrLimit},
		{"no will", whole(0x10, "\x00\x04MQTT\x05\x04\x00\x00\x00\x00\x00"), api.ErrBad},
		{"a will's topic that is empty", whole(0x10, "\x00\x04MQTT\x05\x04\x00\x00\x00\x00\x00\x00\x00\x00\x00\x00"), api.ErrBad},
		{"a will's topic that is empty, and a body that is too long", whole(0x10, "\x00\x04MQTT\x05\x04\x00\x00\x00\x00\x00\x00\x00\x00"+tooLong), api.ErrBad},
		{"a will's body that is too long", whole(0x10, "\x00\x04MQTT\x05\x04\x00\x00\x00\x00\x00\x00\x00\x01w"+tooLong), api.ErrLimit},
		{"a will's property of a Connect", whole(0x10, "\x00\x04MQTT\x05\x04\x00\x00\x00\x00\x00\x03\x21\x00\x01\x00\x01w\x00\x00"), api.ErrProto},
		{"a will's property of 24 in a Connect", whole(0x10, "\x00\x04MQTT\x05\x00\x00\x00\x05\x18\x00\x00\x00\x01\x00\x00"), api.ErrProto},
		{"a user that is bad", whole(0x10, "\x00\x04MQTT\x05\x80\x00\x00\x00\x00\x00\x00\x01\xff"), api.ErrBad},
		{"a pass that is cut off", whole(0x10, "\x00\x04MQTT\x05\x40\x00\x00\x00\x00\x00\x00\x02\xff"), api.ErrBad},
		{"a pass that is too long", whole(0x10, "\x00\x04MQTT\x05\x40\x00\x00\x00\x00\x00"+tooLong), api.ErrLimit},
		{"a Connect with a byte left over", whole(0x10, "\x00\x04MQTT\x05\x00\x00\x00\x00\x00\x00\x00"), api.ErrBad},
		{"a present of 2", "\x20\x03\x02\x00\x00", api.ErrBad},
		{"a present of 2, and a wrong property", "\x20\x05\x02\x00\x02\x01\x00", api.ErrBad},
		{"a ConnAck without properties", "\x20\x02\x00\x00", api.ErrBad},
		{"a ConnAck with a byte left over", "\x20\x04\x00\x00\x00\x00", api.ErrBad},
		{"a topic that is bad", "\x30\x04\x00\x01\x00\x00", api.ErrBad},
		{"a topic that is too long", whole(0x30, tooLong+"\x00"), api.ErrLimit},
		{"an ID of 0", "\x32\x06\x00\x01a\x00\x00\x00", api.ErrBad},
		{"an ID of 0, and a property of another place", whole(0x32, "\x00\x01a\x00\x00\x02\x19\x00"), api.ErrBad},
		{"a property of another place, and a Body that is too long", whole(0x30, "\x00\x01a\x02\x19\x00"+long+"x"), api.ErrProto},
		{"nine properties", whole(0x30, "\x00\x01a\x2d"+strings.Repeat("\x26\x00\x00\x00\x00", 9)), api.ErrLimit},
		{"a Body as long as may be", whole(0x30, "\x00\x01a\x00"+long), api.OK},
		{"a Body that is too long", whole(0x30, "\x00\x01a\x00"+long+"x"), api.ErrLimit},
		{"half an ID", "\x40\x01\x00", api.ErrBad},
		{"no ID", "\x50\x00", api.ErrBad},
		{"a PubAck's ID of 0", "\x40\x02\x00\x00", api.ErrBad},
		{"a PubAck with a byte left over", "\x40\x05\x00\x01\x00\x00\x00", api.ErrBad},
		{"a PubAck's properties that are cut off", "\x40\x04\x00\x01\x00\x01", api.ErrBad},
		{"a PubComp's property of another place", "\x70\x09\x00\x01\x00\x05\x11\x00\x00\x00\x01", api.ErrProto},
		{"no filter", "\x82\x03\x00\x01\x00", api.ErrProto},
		{"no filter, and no properties", "\x82\x02\x00\x01", api.ErrBad},
		{"no filter, and an ID of 0", "\x82\x03\x00\x00\x00", api.ErrBad},
		{"a filter without its byte", "\x82\x06\x00\x01\x00\x00\x01a", api.ErrBad},
		{"a filter that is bad, with a byte that is none", "\x82\x07\x00\x01\x00\x00\x01\x00\xff", api.ErrBad},
		{"a filter's QoS of 3, then a bad one", "\x82\x08\x00\x01\x00\x00\x01a\x03\x00", api.ErrProto},
		{"a filter's Handling of 3", "\x82\x07\x00\x01\x00\x00\x01a\x30", api.ErrProto},
		{"a filter's bit of 64", "\x82\x07\x00\x01\x00\x00\x01a\x40", api.ErrProto},
		{"a filter's bit of 128", "\x82\x07\x00\x01\x00\x00\x01a\x80", api.ErrProto},
		{"a bad filter, then a QoS of 3", "\x82\x0a\x00\x01\x00\x00\x01\xff\x00\x00\x00\x03", api.ErrBad},
		{"four filters", whole(0x82, "\x00\x01\x00"+filters), api.OK},
		{"five filters", whole(0x82, "\x00\x01\x00"+filters+"\x00\x01a\x00"), api.ErrLimit},
		{"five filters, the last one cut off", whole(0x82, "\x00\x01\x00"+filters+"\x00\x01a"), api.ErrLimit},
		{"five filters, the last one with a QoS of 3", whole(0x82, "\x00\x01\x00"+filters+"\x00\x01a\x03"), api.ErrLimit},
		{"five filters, then a bad one", whole(0x82, "\x00\x01\x00"+filters+"\x00\x01a\x00\x00"), api.ErrLimit},
		{"five filters, the fourth one with a QoS of 3", whole(0x82, "\x00\x01\x00"+filters[:12]+"\x00\x01a\x03"+"\x00\x01a\x00"), api.ErrProto},
		{"five filters, the fourth one bad", whole(0x82, "\x00\x01\x00"+filters[:12]+"\x00\x01\xff\x00"+"\x00\x01a\x00"), api.ErrBad},
		{"no topic to leave", "\xa2\x03\x00\x01\x00", api.ErrProto},
		{"four topics to leave", whole(0xa2, "\x00\x01\x00"+topics), api.OK},
		{"five topics to leave", whole(0xa2, "\x00\x01\x00"+topics+"\x00\x00"), api.ErrLimit},
		{"five topics to leave, the last one cut off", whole(0xa2, "\x00\x01\x00"+topics+"\x00"), api.ErrLimit},
		{"five topics to leave, the fourth one bad", whole(0xa2, "\x00\x01\x00"+topics[:9]+"\x00\x01\xff"+"\x00\x01a"), api.ErrBad},
		{"a topic to leave that is too long", whole(0xa2, "\x00\x01\x00"+tooLong), api.ErrLimit},
		{"an Unsubscribe's property of a Subscribe", whole(0xa2, "\x00\x01\x02\x0b\x01\x00\x01a"), api.ErrProto},
		{"no code", "\x90\x03\x00\x01\x00", api.ErrProto},
		{"four codes", "\x90\x07\x00\x01\x00\x00\x01\x02\xff", api.OK},
		{"five codes", "\x90\x08\x00\x01\x00\x00\x01\x02\x03\x04", api.ErrLimit},
		{"no code of an UnsubAck", "\xb0\x03\x00\x01\x00", api.ErrProto},
		{"five codes of an UnsubAck", "\xb0\x08\x00\x01\x00\x00\x00\x00\x00\x00", api.ErrLimit},
		{"an UnsubAck's ID of 0", "\xb0\x04\x00\x00\x00\x00", api.ErrBad},
		{"a PingReq with a byte left over", "\xc0\x01\x00", api.ErrBad},
		{"a PingResp with a byte left over", "\xd0\x01\x00", api.ErrBad},
		{"a Disconnect with a byte left over", "\xe0\x03\x00\x00\x00", api.ErrBad},
		{"a Disconnect's property twice", "\xe0\x0c\x00\x0a\x11\x00\x00\x00\x01\x11\x00\x00\x00\x01", api.ErrProto},
		{"an Auth's property of another place", "\xf0\x07\x18\x05\x11\x00\x00\x00\x01", api.ErrProto},
		{"a bad byte behind the end", "\xe0\x00\x00", api.OK},
	} {
		p, k, e := Take(c.s)
		if e != c.want || e != api.OK && (k != 0 || !reflect.DeepEqual(p, api.Packet{})) {
			t.Errorf("%s: %.300v, %d, %v, want %v", c.about, p, k, e, c.want)
		}
		checkTake(t, c.s)
	}
}

// P5.2: a filter that is wrong itself: its own error up to the fourth one, and behind that one too many.
func TestOneTooMany(t *testing.T) {
	longer := "\x04\x01" + long + "x"
	for _, c := range []struct {
		first int
		good  string
		wrong string
		want  api.Errno // of the wrong one, where there is room for it
	}{
		{0x82, "\x00\x01a\x00", "\xff", api.ErrBad},
		{0x82, "\x00\x01a\x00", "\x00\x01", api.ErrBad},
		{0x82, "\x00\x01a\x00", "\x00\x01a", api.ErrBad},
		{0x82, "\x00\x01a\x00", "\x00\x01\xff\x00", api.ErrBad},
		{0x82, "\x00\x01a\x00", "\x00\x01a\x03", api.ErrProto},
		{0x82, "\x00\x01a\x00", "\x00\x01a\x30", api.ErrProto},
		{0x82, "\x00\x01a\x00", "\x00\x01a\x40", api.ErrProto},
		{0x82, "\x00\x01a\x00", longer + "\x00", api.ErrLimit},
		{0x82, "\x00\x01a\x00", "\x00\x01a\x00", api.OK},
		{0xa2, "\x00\x01a", "\xff", api.ErrBad},
		{0xa2, "\x00\x01a", "\x00\x02a", api.ErrBad},
		{0xa2, "\x00\x01a", "\x00\x01\xff", api.ErrBad},
		{0xa2, "\x00\x01a", longer, api.ErrLimit},
		{0xa2, "\x00\x01a", "\x00\x01a", api.OK},
	} {
		for ahead := range 8 {
			want := c.want
			if ahead >= 4 {
				want = api.ErrLimit
			}
			s := whole(c.first, "\x00\x01\x00"+strings.Repeat(c.good, ahead)+c.wrong)
			if _, _, e := Take(s); e != want {
				t.Errorf("%.100q behind %d filters: %v, want %v", c.wrong, ahead, e, want)
			}
			checkTake(t, s)
		}
	}
}

// R2: nothing is changed or kept, and what is told is one's own.
func TestNothingShared(t *testing.T) {
	for _, kind := range kinds() {
		p, untouched := most(kind), most(kind)
		spare := []int{0, 255, 128, 2, 77}
		if p.Codes != nil {
			p.Codes = spare[:4]
		}
		s, _ := Bytes(p)
		if !same(p, untouched) || !slices.Equal(spare, []int{0, 255, 128, 2, 77}) {
			t.Errorf("Bytes changes its packet: %v, %v", p, spare)
		}
		first, _, _ := Take(s)
		write(&first)
		if second, _, _ := Take(s); !same(second, untouched) {
			t.Errorf("Take tells the same memory twice: %v", second)
		}
	}
	p, _, _ := Take(raw(most(api.Connect)))
	_ = append(p.Props, api.Prop{ID: 1}, api.Prop{ID: 1})
	_ = append(p.Will.Props, api.Prop{ID: 1}, api.Prop{ID: 1})
	if !same(p, most(api.Connect)) {
		t.Errorf("lists of one answer share memory: %v", p)
	}
}

// write writes into all lists of a packet, and behind them.
func write(p *api.Packet) {
	for _, l := range []*[]api.Prop{&p.Props, &p.Will.Props} {
		*l = append(*l, api.Prop{ID: 99})
		(*l)[0] = api.Prop{ID: 99}
	}
	p.Codes = append(p.Codes, 99)
	p.Codes[0] = 99
	p.Filters = append(p.Filters, api.Filter{QoS: 9})
	p.Filters[0].Topic = "?"
}

// P5.1 to P5.3, of any bytes and packets.
func FuzzPack(f *testing.F) {
	for _, kind := range kinds() {
		for _, p := range []api.Packet{least(kind), most(kind)} {
			s := raw(p)
			f.Add(s, int(s[0]), s[2:], kind, 1, "a", true)
		}
	}
	f.Fuzz(func(t *testing.T, s string, first int, rest string, kind, n int, text string, so bool) {
		checkTake(t, s)
		checkTake(t, whole(first, rest))
		checkPut(t, api.Packet{Kind: kind, QoS: n, ID: n, Topic: text, Dup: so})
		for _, k := range kinds() {
			for _, field := range kindsFields(k) {
				p := most(k)
				switch v := reflect.ValueOf(&p).Elem().FieldByName(field); v.Kind() {
				case reflect.Int:
					v.SetInt(int64(n))
				case reflect.String:
					v.SetString(text)
				case reflect.Bool:
					v.SetBool(so)
				}
				checkPut(t, p)
			}
		}
	})
}
