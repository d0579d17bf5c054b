package pack

import (
	"encoding/binary"
	"reflect"
	"slices"
	"strings"
	"testing"

	"fairway/api"
	"fairway/prop"
	"fairway/text"
	"fairway/vbi"
)

// The model of chapter 5: raw writes whatever a packet has, wantMayBe says which packets may be, and wantTake says by
// a list of steps where taking ends. A packet that is taken is held against its bytes by raw.

// kindsFields says which fields a kind has, by their names.
func kindsFields(kind int) []string {
	return strings.Fields([]string{
		"",
		"Client Clean Keep Will HasUser User HasPass Pass Props",
		"Present Reason Props",
		"Dup QoS Retain Topic ID Props Body",
		"ID Reason Props", "ID Reason Props", "ID Reason Props", "ID Reason Props",
		"ID Props Filters",
		"ID Props Codes",
		"ID Props Filters",
		"ID Props Codes",
		"", "",
		"Reason Props", "Reason Props",
	}[kind])
}

// isEmpty says whether a field is 0 or empty, also of its own fields.
func isEmpty(v reflect.Value) bool {
	switch v.Kind() {
	case reflect.Slice:
		return v.Len() == 0
	case reflect.Struct:
		for i := range v.NumField() {
			if !isEmpty(v.Field(i)) {
				return false
			}
		}
		return true
	}
	return v.IsZero()
}

func hasOnlyItsFields(p api.Packet) bool {
	v := reflect.ValueOf(p)
	for i := range v.NumField() {
		name := v.Type().Field(i).Name
		if name != "Kind" && !slices.Contains(kindsFields(p.Kind), name) && !isEmpty(v.Field(i)) {
			return false
		}
	}
	return true
}

func within(n, least, greatest int) bool {
	return least <= n && n <= greatest
}

func wantWill(w api.Will) bool {
	if !w.Has {
		return isEmpty(reflect.ValueOf(w))
	}
	return within(w.QoS, 0, 2) && w.Topic != "" && text.Check(w.Topic) == api.OK && len(w.Body) <= 1024 && prop.Check(0, w.Props) == api.OK
}

func wantLogin(p api.Packet) bool {
	switch {
	case !within(p.Keep, 0, 65535), text.Check(p.Client) != api.OK, text.Check(p.User) != api.OK, len(p.Pass) > 1024:
		return false
	case !p.HasUser && p.User != "", !p.HasPass && p.Pass != "":
		return false
	}
	return wantWill(p.Will)
}

func wantPublish(p api.Packet) bool {
	if p.QoS == 0 && (p.Dup || p.ID != 0) || p.QoS > 0 && !within(p.ID, 1, 65535) {
		return false
	}
	return within(p.QoS, 0, 2) && text.Check(p.Topic) == api.OK && len(p.Body) <= 1024
}

func wantFilters(p api.Packet) bool {
	for _, f := range p.Filters {
		if text.Check(f.Topic) != api.OK || !within(f.QoS, 0, 2) || !within(f.Handling, 0, 2) {
			return false
		}
		if p.Kind == api.Unsubscribe && (f.QoS != 0 || f.NoLocal || f.AsSent || f.Handling != 0) {
			return false
		}
	}
	return within(len(p.Filters), 1, 4)
}

func wantCodes(l []int) bool {
	return within(len(l), 1, 4) && !slices.ContainsFunc(l, func(c int) bool { return !within(c, 0, 255) })
}

func wantMayBe(p api.Packet) bool {
	if !within(p.Kind, 1, 15) || !hasOnlyItsFields(p) || prop.Check(p.Kind, p.Props) != api.OK || !within(p.Reason, 0, 255) {
		return false
	}
	has := kindsFields(p.Kind)
	switch {
	case p.Kind == api.Connect && !wantLogin(p), p.Kind == api.Publish && !wantPublish(p):
		return false
	case p.Kind != api.Publish && slices.Contains(has, "ID") && !within(p.ID, 1, 65535):
		return false
	case slices.Contains(has, "Filters") && !wantFilters(p), slices.Contains(has, "Codes") && !wantCodes(p.Codes):
		return false
	}
	return len(raw(p)) <= 8192
}

// one says a byte, two says two of them.
func one(n int) string { return string([]byte{byte(n)}) }
func two(n int) string { return string(binary.BigEndian.AppendUint16(nil, uint16(n))) }

func sizedRaw(s string) string { return two(len(s)) + s }

func behindLength(s string) string {
	return string(binary.AppendUvarint(nil, uint64(len(s)))) + s
}

// whole says a packet's bytes, of its first byte and of what stands behind its length.
func whole(first int, rest string) string {
	return one(first) + behindLength(rest)
}

// propsRaw says the bytes of properties that may be, and else of one that may be nowhere.
func propsRaw(place int, l []api.Prop) string {
	s, e := prop.Bytes(place, l)
	if e != api.OK {
		return "\x01\x00"
	}
	return s
}

func flag(so bool, n int) int {
	if so {
		return n
	}
	return 0
}

func connectRaw(p api.Packet) string {
	w := p.Will
	flags := flag(p.Clean, 2) + flag(w.Has, 4) + 8*w.QoS + flag(w.Retain, 32) + flag(p.HasPass, 64) + flag(p.HasUser, 128)
	s := "\x00\x04MQTT\x05" + one(flags) + two(p.Keep) + propsRaw(1, p.Props) + sizedRaw(p.Client)
	if w.Has {
		s += propsRaw(0, w.Props) + sizedRaw(w.Topic) + sizedRaw(w.Body)
	}
	if p.HasUser {
		s += sizedRaw(p.User)
	}
	if p.HasPass {
		s += sizedRaw(p.Pass)
	}
	return s
}

func reasonRaw(p api.Packet) string {
	switch {
	case len(p.Props) > 0:
		return one(p.Reason) + propsRaw(p.Kind, p.Props)
	case p.Reason != 0:
		return one(p.Reason)
	}
	return ""
}

func raw(p api.Packet) string {
	props := propsRaw(p.Kind, p.Props)
	switch p.Kind {
	case api.Connect:
		return whole(0x10, connectRaw(p))
	case api.ConnAck:
		return whole(0x20, one(flag(p.Present, 1))+one(p.Reason)+props)
	case api.Publish:
		id := ""
		if p.QoS > 0 {
			id = two(p.ID)
		}
		return whole(0x30+flag(p.Dup, 8)+2*p.QoS+flag(p.Retain, 1), sizedRaw(p.Topic)+id+props+p.Body)
	case api.PubRel:
		return whole(0x62, two(p.ID)+reasonRaw(p))
	case api.PubAck, api.PubRec, api.PubComp:
		return whole(p.Kind<<4, two(p.ID)+reasonRaw(p))
	case api.Subscribe, api.Unsubscribe:
		s := two(p.ID) + props
		for _, f := range p.Filters {
			s += sizedRaw(f.Topic)
			if p.Kind == api.Subscribe {
				s += one(f.QoS + flag(f.NoLocal, 4) + flag(f.AsSent, 8) + 16*f.Handling)
			}
		}
		return whole(p.Kind<<4+2, s)
	case api.SubAck, api.UnsubAck:
		s := two(p.ID) + props
		for _, c := range p.Codes {
			s += one(c)
		}
		return whole(p.Kind<<4, s)
	}
	return whole(p.Kind<<4, reasonRaw(p))
}

// shortest says the bytes of the packet that s is, written without what need not stand there.
func shortest(s string) string {
	kind := int(s[0] >> 4)
	at := 0
	switch kind {
	case api.PubAck, api.PubRec, api.PubRel, api.PubComp:
		at = 2
	case api.Disconnect, api.Auth:
	default:
		return s
	}
	_, k, _ := vbi.TakeNum(s[1:])
	rest := s[1+k:]
	if len(rest) == at+2 && rest[at+1] == 0 {
		rest = rest[:at+1]
	}
	if len(rest) == at+1 && rest[at] == 0 {
		rest = rest[:at]
	}
	return whole(int(s[0]), rest)
}

// steps says what is to be taken of a packet, by its first byte; "bad" is what may not begin one.
func steps(first int) string {
	kind, flags := first>>4, first&15
	if kind == api.Publish {
		if flags&6 == 6 || flags&14 == 8 {
			return "bad"
		}
		return []string{"text props body", "text id props body", "text id props body"}[flags>>1&3]
	}
	if wanted := flag(kind == api.PubRel || kind == api.Subscribe || kind == api.Unsubscribe, 2); flags != wanted {
		return "bad"
	}
	return []string{
		"bad", "name version login two props text", "yes byte props", "",
		"id reason", "id reason", "id reason", "id reason",
		"id props filters", "id props codes", "id props topics", "id props codes",
		"", "", "reason", "reason",
	}[kind]
}

// loginSteps says what a Connect has behind its client, by its flags.
func loginSteps(flags int) []string {
	var l []string
	if flags&4 != 0 {
		l = append(l, "willprops", "topic", "bin")
	}
	if flags&128 != 0 {
		l = append(l, "text")
	}
	if flags&64 != 0 {
		l = append(l, "bin")
	}
	return l
}

// mayLogInBy says whether a Connect may have those flags: none of 1, and of a will's either 4 and a QoS, or none.
func mayLogInBy(flags int) bool {
	if flags&4 != 0 {
		return flags&1 == 0 && flags&24 != 24
	}
	return flags&1 == 0 && flags&(8+16+32) == 0
}

// unless says an error where something is not so.
func unless(so bool, e api.Errno) api.Errno {
	if so {
		return api.OK
	}
	return e
}

// takeByte says a byte as a step takes it.
func takeByte(step, s string) (k int, more []string, e api.Errno) {
	if s == "" {
		return 0, nil, api.ErrBad
	}
	n := int(s[0])
	switch step {
	case "login":
		return 1, loginSteps(n), unless(mayLogInBy(n), api.ErrBad)
	case "yes":
		e = unless(n < 2, api.ErrBad)
	case "version":
		e = unless(n == 5, api.ErrProto)
	case "options":
		e = unless(n&3 < 3 && n>>4 < 3, api.ErrProto)
	}
	return 1, nil, e
}

// takePart says how many bytes a text, a number or properties have, and their error.
func takePart(step string, kind int, s string) (k int, e api.Errno) {
	n, str := 0, ""
	switch step {
	case "bin":
		_, k, e = vbi.TakeBin(s)
	case "props":
		_, k, e = prop.Take(kind, s)
	case "willprops":
		_, k, e = prop.Take(0, s)
	case "two", "id":
		n, e = vbi.TakeTwo(s)
		k = 2
	default:
		str, k, e = vbi.TakeText(s)
	}
	switch {
	case e == api.ErrCut:
		e = api.ErrBad
	case e != api.OK:
	case step == "id" && n == 0, step == "topic" && str == "":
		e = api.ErrBad
	case step == "name" && str != "MQTT":
		e = api.ErrProto
	}
	return k, e
}

// take says how many bytes one step takes, the steps that it adds to the end, and its error.
func take(step string, kind int, s string) (k int, more []string, e api.Errno) {
	switch step {
	case "bad":
		return 0, nil, api.ErrBad
	case "version", "login", "yes", "byte", "options":
		return takeByte(step, s)
	case "body":
		return len(s), nil, unless(len(s) <= 1024, api.ErrLimit)
	case "reason":
		return 0, []string{"byte", "props"}[:min(len(s), 2)], api.OK
	case "filters":
		return takeMany(s, "text", "options")
	case "topics":
		return takeMany(s, "text")
	case "codes":
		return takeMany(s, "byte")
	}
	k, e = takePart(step, kind, s)
	return k, nil, e
}

func takeMany(s string, parts ...string) (k int, more []string, e api.Errno) {
	for count := 1; k < len(s); count++ {
		if count > 4 {
			return 0, nil, api.ErrLimit
		}
		for _, part := range parts {
			n, _, e := take(part, 0, s[k:])
			if e != api.OK {
				return 0, nil, e
			}
			k += n
		}
	}
	return k, nil, unless(k > 0, api.ErrProto)
}

// wantTake says how many bytes the packet has that s begins with, or why there is none.
func wantTake(s string) (size int, e api.Errno) {
	if s == "" {
		return 0, api.ErrCut
	}
	n, k, e := vbi.TakeNum(s[1:])
	switch {
	case e != api.OK:
		return 0, e
	case 1+k+n > 8192:
		return 0, api.ErrLimit
	case 1+k+n > len(s):
		return 0, api.ErrCut
	}
	rest := s[1+k : 1+k+n]
	for l := strings.Fields(steps(int(s[0]))); len(l) > 0; {
		used, more, e := take(l[0], int(s[0]>>4), rest)
		if e != api.OK {
			return 0, e
		}
		rest = rest[used:]
		l = slices.Concat(l[1:], more)
	}
	if rest != "" {
		return 0, api.ErrBad
	}
	return 1 + k + n, api.OK
}

// checkPut holds P5.1 and P5.3 for one packet, whatever it has.
func checkPut(t *testing.T, p api.Packet) {
	t.Helper()
	want, bad := "", api.ErrForm
	if wantMayBe(p) {
		want, bad = raw(p), api.OK
	}
	if e := Check(p); e != bad {
		t.Fatalf("Check(%.300v): %v, want %v", p, e, bad)
	}
	s, e := Bytes(p)
	if s != want || e != bad {
		t.Fatalf("Bytes(%.300v): %.300q, %v, want %.300q, %v", p, s, e, want, bad)
	}
	if bad != api.OK {
		return
	}
	for _, behind := range []string{"", "\x00", "\xff\xff"} {
		back, k, e := Take(s + behind)
		if e != api.OK || k != len(s) || !same(back, p) {
			t.Fatalf("Take(%.300q): %.300v, %d, %v", s+behind, back, k, e)
		}
	}
}

// checkTake holds P5.2 and P5.3 for the beginning of any bytes.
func checkTake(t *testing.T, s string) {
	t.Helper()
	size, bad := wantTake(s)
	p, k, e := Take(s)
	if k != size || e != bad {
		t.Fatalf("Take(%.300q): %.300v, %d, %v, want %d, %v", s, p, k, e, size, bad)
	}
	if bad != api.OK {
		if !reflect.DeepEqual(p, api.Packet{}) {
			t.Fatalf("Take(%.300q): %.300v beside %v", s, p, e)
		}
		return
	}
	want := shortest(s[:k])
	if !wantMayBe(p) || raw(p) != want {
		t.Fatalf("Take(%.300q): %.300v", s, p)
	}
	if back, e := Bytes(p); back != want || e != api.OK {
		t.Fatalf("Bytes(Take(%.300q)): %.300q, %v, want %.300q", s, back, e, want)
	}
}

// same says whether two packets are one, where a nil list and an empty one are.
func same(a, b api.Packet) bool {
	if !slices.Equal(a.Codes, b.Codes) || !slices.Equal(a.Filters, b.Filters) || !slices.Equal(a.Props, b.Props) || !slices.Equal(a.Will.Props, b.Will.Props) {
		return false
	}
	for _, p := range []*api.Packet{&a, &b} {
		p.Codes, p.Filters, p.Props, p.Will.Props = nil, nil, nil, nil
	}
	return reflect.DeepEqual(a, b)
}
