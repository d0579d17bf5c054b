package vbi

import (
	"encoding/binary"
	"math"
	"slices"
	"strings"
	"testing"

	"fairway/api"
	"fairway/text"
)

// wantNum says a number's bytes by the library's varints, which have as many bits a byte.
func wantNum(n int) (string, api.Errno) {
	if n < 0 || n > api.MaxNum {
		return "", api.ErrLimit
	}
	return string(binary.AppendUvarint(nil, uint64(n))), api.OK
}

// wantTakeNum says what s begins with: the shortest beginning that is a number's bytes, if there is one.
func wantTakeNum(s string) (int, int, api.Errno) {
	head := s[:min(len(s), 4)]
	n, k := binary.Uvarint([]byte(head))
	switch {
	case k == 0 && len(head) < 4:
		return 0, 0, api.ErrCut
	case k == 0 || len(binary.AppendUvarint(nil, n)) < k:
		return 0, 0, api.ErrBad
	}
	return int(n), k, api.OK
}

// checkNum holds P2.1 and P2.4 for one number.
func checkNum(t *testing.T, n int) {
	t.Helper()
	want, bad := wantNum(n)
	s, e := Num(n)
	if s != want || e != bad {
		t.Fatalf("Num(%d): %q, %v, want %q, %v", n, s, e, want, bad)
	}
	if bad != api.OK {
		return
	}
	for _, rest := range []string{"", "\x00", "\xff\x01"} {
		if back, k, e := TakeNum(s + rest); back != n || k != len(s) || e != api.OK {
			t.Fatalf("TakeNum(%q): %d, %d, %v", s+rest, back, k, e)
		}
	}
}

// checkTakeNum holds P2.1 and P2.4 for the beginning of any bytes.
func checkTakeNum(t *testing.T, s string) {
	t.Helper()
	want, size, bad := wantTakeNum(s)
	n, k, e := TakeNum(s)
	if n != want || k != size || e != bad {
		t.Fatalf("TakeNum(%q): %d, %d, %v, want %d, %d, %v", s, n, k, e, want, size, bad)
	}
	if e != api.OK {
		return
	}
	if back, e := Num(n); back != s[:k] || e != api.OK {
		t.Fatalf("Num(TakeNum(%q)): %q, %v", s, back, e)
	}
}

// around tells numbers near the edges of all widths, and beyond them.
func around() []int {
	l := []int{math.MinInt, math.MinInt + 1, math.MaxInt - 1, math.MaxInt}
	for bits := range 63 {
		for d := -2; d <= 2; d++ {
			l = append(l, 1<<bits+d, -1<<bits+d)
		}
	}
	return l
}

// P2.1: numbers at each edge, and many between.
func TestNum(t *testing.T) {
	for _, n := range around() {
		checkNum(t, n)
	}
	for n := range 1 << 16 {
		checkNum(t, n)
	}
	for n := 0; n <= api.MaxNum+1<<20; n += 4099 {
		checkNum(t, n)
	}
}

// P2.1: MQTT's own table of the least and the greatest number of each length, and the document's example.
func TestNumTable(t *testing.T) {
	for _, c := range []struct {
		n    int
		want string
	}{
		{0, "\x00"}, {127, "\x7f"},
		{128, "\x80\x01"}, {321, "\xc1\x02"}, {16383, "\xff\x7f"},
		{16384, "\x80\x80\x01"}, {2097151, "\xff\xff\x7f"},
		{2097152, "\x80\x80\x80\x01"}, {268435455, "\xff\xff\xff\x7f"},
	} {
		if s, e := Num(c.n); s != c.want || e != api.OK {
			t.Errorf("Num(%d): %q, %v", c.n, s, e)
		}
		if n, k, e := TakeNum(c.want); n != c.n || k != len(c.want) || e != api.OK {
			t.Errorf("TakeNum(%q): %d, %d, %v", c.want, n, k, e)
		}
	}
}

// P2.1: each beginning of up to two bytes, and of up to five at their edges.
func TestTakeNum(t *testing.T) {
	edges := []byte{0, 1, 2, 0x7e, 0x7f, 0x80, 0x81, 0xc1, 0xfe, 0xff}
	l := []string{""}
	for range 5 {
		for _, s := range slices.Clone(l) {
			for _, b := range edges {
				l = append(l, s+string([]byte{b}))
			}
		}
		slices.Sort(l)
		l = slices.Compact(l)
	}
	for _, s := range l {
		checkTakeNum(t, s)
	}
	for n := range 1 << 16 {
		checkTakeNum(t, string([]byte{byte(n >> 8), byte(n)}))
	}
}

// P2.1: its errors one by one: byte by byte the first that comes.
func TestTakeNumErrors(t *testing.T) {
	for _, c := range []struct {
		s    string
		want api.Errno
	}{
		{"", api.ErrCut},
		{"\x80", api.ErrCut},
		{"\x80\x80", api.ErrCut},
		{"\xff\xff\xff", api.ErrCut},
		{"\x80\x80\x80\x80", api.ErrBad},
		{"\xff\xff\xff\xff", api.ErrBad},
		{"\xff\xff\xff\xff\x01", api.ErrBad},
		{"\x80\x00", api.ErrBad},
		{"\xff\x00", api.ErrBad},
		{"\x80\x80\x00", api.ErrBad},
		{"\xff\xff\xff\x00", api.ErrBad},
		{"\x81\x00\x80", api.ErrBad},
	} {
		if n, k, e := TakeNum(c.s); n != 0 || k != 0 || e != c.want {
			t.Errorf("TakeNum(%q): %d, %d, %v, want %v", c.s, n, k, e, c.want)
		}
	}
}

// fixedPair is Two and TakeTwo, or Four and TakeFour, with what the library says of them.
type fixedPair struct {
	width int
	bound int
	put   func(int) (string, api.Errno)
	take  func(string) (int, api.Errno)
	want  func(int) []byte
}

func fixedPairs() []fixedPair {
	return []fixedPair{
		{2, 1 << 16, Two, TakeTwo, func(n int) []byte { return binary.BigEndian.AppendUint16(nil, uint16(n)) }},
		{4, 1 << 32, Four, TakeFour, func(n int) []byte { return binary.BigEndian.AppendUint32(nil, uint32(n)) }},
	}
}

// checkFixed holds P2.2 and P2.4 for one number.
func checkFixed(t *testing.T, p fixedPair, n int) {
	t.Helper()
	want, bad := "", api.ErrLimit
	if n >= 0 && n < p.bound {
		want, bad = string(p.want(n)), api.OK
	}
	s, e := p.put(n)
	if s != want || e != bad {
		t.Fatalf("%d bytes of %d: %q, %v, want %q, %v", p.width, n, s, e, want, bad)
	}
	if bad != api.OK {
		return
	}
	for _, rest := range []string{"", "\x00", "\xff\xff\xff"} {
		if back, e := p.take(s + rest); back != n || e != api.OK {
			t.Fatalf("%d bytes are taken of %q: %d, %v", p.width, s+rest, back, e)
		}
	}
	for k := range p.width {
		if back, e := p.take(s[:k]); back != 0 || e != api.ErrCut {
			t.Fatalf("%d bytes are taken of %q: %d, %v", p.width, s[:k], back, e)
		}
	}
}

// P2.2: numbers at each edge, all of two bytes, and many of four.
func TestFixed(t *testing.T) {
	for _, p := range fixedPairs() {
		for _, n := range around() {
			checkFixed(t, p, n)
		}
		for n := range 1 << 16 {
			checkFixed(t, p, n)
		}
		for n := 0; n < 1<<32+1<<24; n += 65003 {
			checkFixed(t, p, n)
		}
	}
}

// P2.2: written out: the highest byte first, below the bound, and what is cut off.
func TestFixedTable(t *testing.T) {
	for _, c := range []struct {
		n    int
		two  string
		four string
	}{
		{0, "\x00\x00", "\x00\x00\x00\x00"},
		{1, "\x00\x01", "\x00\x00\x00\x01"},
		{258, "\x01\x02", "\x00\x00\x01\x02"},
		{65535, "\xff\xff", "\x00\x00\xff\xff"},
		{65536, "", "\x00\x01\x00\x00"},
		{16909060, "", "\x01\x02\x03\x04"},
		{4294967295, "", "\xff\xff\xff\xff"},
		{4294967296, "", ""},
		{-1, "", ""},
	} {
		if s, e := Two(c.n); s != c.two || (e == api.OK) != (s != "") || s == "" && e != api.ErrLimit {
			t.Errorf("Two(%d): %q, %v", c.n, s, e)
		}
		if s, e := Four(c.n); s != c.four || (e == api.OK) != (s != "") || s == "" && e != api.ErrLimit {
			t.Errorf("Four(%d): %q, %v", c.n, s, e)
		}
	}
}

// P2.2 and P2.4: what is taken of any two bytes was written so.
func TestTakeFixed(t *testing.T) {
	for n := range 1 << 16 {
		s := string([]byte{byte(n >> 8), byte(n)})
		for _, p := range fixedPairs() {
			whole := strings.Repeat(s, p.width/2)
			back, e := p.take(whole)
			again, f := p.put(back)
			if e != api.OK || f != api.OK || again != whole {
				t.Fatalf("%q: %d, %v; %q, %v", whole, back, e, again, f)
			}
		}
	}
}

// sized is Text and TakeText, or Bin and TakeBin, with the error that a text of them has.
type sized struct {
	about string
	put   func(string) (string, api.Errno)
	take  func(string) (string, int, api.Errno)
	check func(string) api.Errno
}

func sizedPairs() []sized {
	anyBytes := func(s string) api.Errno {
		if len(s) > api.MaxText {
			return api.ErrLimit
		}
		return api.OK
	}
	return []sized{{"Text", Text, TakeText, text.Check}, {"Bin", Bin, TakeBin, anyBytes}}
}

// lengthAhead says the bytes of s, whether or not it is too long.
func lengthAhead(s string) string {
	return string(binary.BigEndian.AppendUint16(nil, uint16(len(s)))) + s
}

// checkPut holds P2.3 and P2.4 for one text of any bytes.
func checkPut(t *testing.T, p sized, s string) {
	t.Helper()
	want, bad := "", p.check(s)
	if bad == api.OK {
		want = lengthAhead(s)
	}
	b, e := p.put(s)
	if b != want || e != bad {
		t.Fatalf("%s(%.20q): %.20q, %v, want %.20q, %v", p.about, s, b, e, want, bad)
	}
	if bad != api.OK {
		return
	}
	for _, rest := range []string{"", "\x00", "\xff\xfe\x00a"} {
		if back, k, e := p.take(b + rest); back != s || k != len(b) || e != api.OK {
			t.Fatalf("Take%s of %.20q: %.20q, %d, %v", p.about, b+rest, back, k, e)
		}
	}
	for k := range b {
		if back, n, e := p.take(b[:k]); back != "" || n != 0 || e != api.ErrCut {
			t.Fatalf("Take%s of %d bytes of %d: %.20q, %d, %v", p.about, k, len(b), back, n, e)
		}
	}
}

// checkTakeSized holds P2.3 and P2.4 for the beginning of any bytes.
func checkTakeSized(t *testing.T, p sized, s string) {
	t.Helper()
	want, size, bad := "", 0, api.ErrCut
	if len(s) >= 2 {
		n := int(s[0])*256 + int(s[1])
		switch {
		case n > api.MaxText:
			bad = api.ErrLimit
		case len(s) >= 2+n:
			if bad = p.check(s[2 : 2+n]); bad == api.OK {
				want, size = s[2:2+n], 2+n
			}
		}
	}
	got, k, e := p.take(s)
	if got != want || k != size || e != bad {
		t.Fatalf("Take%s of %.20q: %.20q, %d, %v, want %.20q, %d, %v", p.about, s, got, k, e, want, size, bad)
	}
	if e != api.OK {
		return
	}
	if back, e := p.put(got); back != s[:k] || e != api.OK {
		t.Fatalf("%s of what was taken of %.20q: %.20q, %v", p.about, s, back, e)
	}
}

// P2.3: texts and bytes, at the edges of what they may be.
func TestSized(t *testing.T) {
	long := strings.Repeat("x", api.MaxText)
	wide := strings.Repeat("é", api.MaxText/2)
	for _, p := range sizedPairs() {
		for _, s := range []string{
			"", "a", "aé", "\x00", "a\x1f", "\u0080", "\ufffd", "\ufffe", "\xff", "é"[:1], "\xed\xa0\x80",
			long, wide, long[1:], "\xff" + long[1:], long[1:] + "\x00", "x" + wide[1:], long[:256], long[:255],
			long + "x", wide + "é", "\x00" + long, long + "\xff", strings.Repeat("x", 1<<16), strings.Repeat("x", 1<<16+3),
		} {
			checkPut(t, p, s)
		}
		for b := range 256 {
			checkPut(t, p, string([]byte{byte(b)}))
			checkPut(t, p, string([]byte{'a', byte(b), 'b'}))
		}
	}
}

// P2.3: what is taken of any length, with enough bytes behind it, too few, and more.
func TestTakeSized(t *testing.T) {
	x := strings.Repeat("x", api.MaxText+2)
	for _, p := range sizedPairs() {
		for n := range 1 << 16 {
			size := string([]byte{byte(n >> 8), byte(n)})
			checkTakeSized(t, p, size)
			checkTakeSized(t, p, size+"aé")
			checkTakeSized(t, p, size+"\x00")
			checkTakeSized(t, p, size+x)
		}
		for _, s := range []string{"", "\x00", "\xff", "\x04"} {
			checkTakeSized(t, p, s)
		}
	}
}

// P2.3: its errors one by one, and in which order.
func TestTakeSizedErrors(t *testing.T) {
	x := strings.Repeat("x", api.MaxText+1)
	for _, c := range []struct {
		about string
		s     string
		text  api.Errno
		bin   api.Errno
	}{
		{"nothing", "", api.ErrCut, api.ErrCut},
		{"half a length", "\xff", api.ErrCut, api.ErrCut},
		{"nothing behind the length", "\x00\x01", api.ErrCut, api.ErrCut},
		{"one byte too few", "\x00\x03ab", api.ErrCut, api.ErrCut},
		{"the longest, one byte too few", "\x04\x00" + x[:api.MaxText-1], api.ErrCut, api.ErrCut},
		{"the longest", "\x04\x00" + x, api.OK, api.OK},
		{"too long", "\x04\x01" + x, api.ErrLimit, api.ErrLimit},
		{"too long, and cut off", "\x04\x01", api.ErrLimit, api.ErrLimit},
		{"too long, and bad", "\x04\x01\x00" + x, api.ErrLimit, api.ErrLimit},
		{"bad, and cut off", "\x00\x02\x00", api.ErrCut, api.ErrCut},
		{"bad", "\x00\x01\x00", api.ErrBad, api.OK},
		{"cut off within a code point", "\x00\x01é", api.ErrBad, api.OK},
		{"bad behind it", "\x00\x01a\x00", api.OK, api.OK},
		{"nothing, and bad behind it", "\x00\x00\xff", api.OK, api.OK},
	} {
		if s, k, e := TakeText(c.s); e != c.text || e != api.OK && (s != "" || k != 0) {
			t.Errorf("TakeText, %s: %.20q, %d, %v, want %v", c.about, s, k, e, c.text)
		}
		if s, k, e := TakeBin(c.s); e != c.bin || e != api.OK && (s != "" || k != 0) {
			t.Errorf("TakeBin, %s: %.20q, %d, %v, want %v", c.about, s, k, e, c.bin)
		}
	}
}

// P2.4: parts one behind the other are taken one by one.
func TestInARow(t *testing.T) {
	num, _ := Num(321)
	words, _ := Text("aé")
	raw, _ := Bin("\x00\xff")
	s := num + words + raw
	n, k, e := TakeNum(s)
	if n != 321 || e != api.OK {
		t.Fatalf("the number: %d, %v", n, e)
	}
	s = s[k:]
	w, k, e := TakeText(s)
	if w != "aé" || e != api.OK {
		t.Fatalf("the text: %q, %v", w, e)
	}
	s = s[k:]
	b, k, e := TakeBin(s)
	if b != "\x00\xff" || k != len(s) || e != api.OK {
		t.Fatalf("the bytes: %q, %d, %v", b, k, e)
	}
}

// P2.1 to P2.4, of any bytes and numbers.
func FuzzVbi(f *testing.F) {
	for _, s := range []string{"", "\xc1\x02", "\x80\x00", "\x00\x01\x00", "\x00\x03aé", "\x04\x01", "\xff\xff\xff\xff"} {
		f.Add(s, len(s))
	}
	f.Fuzz(func(t *testing.T, s string, n int) {
		checkNum(t, n)
		checkTakeNum(t, s)
		for _, p := range fixedPairs() {
			checkFixed(t, p, n)
		}
		for _, p := range sizedPairs() {
			checkPut(t, p, s)
			checkTakeSized(t, p, s)
		}
	})
}
