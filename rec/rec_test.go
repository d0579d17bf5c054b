package rec

import (
	"math"
	"math/rand"
	"slices"
	"strconv"
	"strings"
	"testing"

	"fairway/api"
)

// long is twice as long as a Key and a Body may be.
var long = strings.Repeat("0123456789abcdef", 128)

func zeros(n int) string {
	return strings.Repeat("\x00", n)
}

// sample says a record that may be, of a Key and a Body that are no texts.
func sample() api.Rec {
	return api.Rec{Offset: 1<<40 - 2, Time: 258, Key: "k\x00é\xff", Body: "\xffbody", QoS: 1}
}

// changed says the sample, changed.
func changed(change func(*api.Rec)) api.Rec {
	r := sample()
	change(&r)
	return r
}

// records says records of many kinds, all of which may be.
func records() []api.Rec {
	l := []api.Rec{
		{},
		sample(),
		{Gone: true},
		{Key: "k", QoS: 2, Gone: true},
		{Offset: 1<<40 - 1, Time: 1 << 40, Key: long[:1024], Body: long[:1024], QoS: 2},
		{Offset: 1<<40 - 1, Time: 1 << 40, Key: long[:1024], QoS: 2, Gone: true},
		{Key: strings.Repeat("\xff", 1024)},
		{Body: zeros(1024)},
		{Time: 1<<32 - 1, Offset: 1 << 32},
		{Key: "\x00\x13\x00\x00\x00\x00", Body: sealed(laid(api.Rec{Body: "within"}))},
	}
	for i := range 40 {
		l = append(l, api.Rec{Offset: 1 << i, Time: 1<<i + i, Key: long[:i], Body: long[i : 3*i], QoS: i % 3})
	}
	return l
}

// P10.1 and P10.2: the bytes of some records, written out.
func TestKnown(t *testing.T) {
	for _, c := range []struct {
		r    api.Rec
		want string
	}{
		{api.Rec{}, "\x00\x13" + "\xed\x95\x98\x95" + zeros(19)},
		{api.Rec{Offset: 1, Time: 2, Key: "k", Body: "v", QoS: 1}, "\x00\x15" + "\xd1\x23\x28\x90" + zeros(7) + "\x01" + zeros(7) + "\x02" + "\x01" + "\x00\x01k" + "v"},
		{api.Rec{Offset: 0x0102030405, Time: 0x0a0b0c0d0e, QoS: 2, Gone: true}, "\x00\x13" + "\x11\x68\xf1\x3e" + zeros(3) + "\x01\x02\x03\x04\x05" + zeros(3) + "\x0a\x0b\x0c\x0d\x0e" + "\x06" + "\x00\x00"},
	} {
		if s, e := Bytes(c.r); s != c.want || e != api.OK {
			t.Errorf("Bytes(%v): %q, %v, want %q", c.r, s, e, c.want)
		}
		if n, e := Size(c.r); n != len(c.want) || e != api.OK {
			t.Errorf("Size(%v): %d, %v", c.r, n, e)
		}
		if r, k, e := Take(c.want); r != c.r || k != len(c.want) || e != api.OK {
			t.Errorf("Take(%q): %v, %d, %v", c.want, r, k, e)
		}
	}
}

// P10.1 and P10.4: records of many kinds.
func TestRecords(t *testing.T) {
	for _, r := range records() {
		if Check(r) != api.OK {
			t.Errorf("Check(%.300v): %v", r, Check(r))
		}
		checkRec(t, r)
	}
}

// P10.1: each number of a record, within its bounds and beyond them.
func TestNumbers(t *testing.T) {
	for _, c := range []struct {
		field string
		set   func(r *api.Rec, n int)
		most  int
	}{
		{"Offset", func(r *api.Rec, n int) { r.Offset = n }, 1<<40 - 1},
		{"Time", func(r *api.Rec, n int) { r.Time = n }, 1 << 40},
		{"QoS", func(r *api.Rec, n int) { r.QoS = n }, 2},
	} {
		l := []int{math.MinInt, math.MinInt + 1, math.MaxInt - 1, math.MaxInt}
		for bits := range 63 {
			for d := -3; d <= 3; d++ {
				l = append(l, 1<<bits+d, -1<<bits+d)
			}
		}
		for _, n := range l {
			want := api.OK
			if n < 0 || n > c.most {
				want = api.ErrForm
			}
			for _, gone := range []bool{false, true} {
				r := changed(func(r *api.Rec) { c.set(r, n) })
				if gone {
					r.Gone, r.Body = true, ""
				}
				if e := Check(r); e != want {
					t.Errorf("%s %d: %v, want %v", c.field, n, e, want)
				}
				checkRec(t, r)
			}
		}
	}
}

// P10.1: Keys and Bodies of each length, and of any bytes; a Gone one has no Body.
func TestTexts(t *testing.T) {
	for n := range len(long) {
		for _, c := range []struct {
			r   api.Rec
			may bool
		}{
			{api.Rec{Key: long[:n]}, n <= 1024},
			{api.Rec{Body: long[:n]}, n <= 1024},
			{api.Rec{Key: long[:n], Body: long[:n]}, n <= 1024},
			{api.Rec{Key: long[:n], Gone: true}, n <= 1024},
			{api.Rec{Body: long[:n], Gone: true}, n == 0},
			{api.Rec{Key: long[:1024], Body: long[:n], Gone: true}, n == 0},
			{api.Rec{Key: long[:n], Body: long[:1024]}, n <= 1024},
			{api.Rec{Key: long[:1025], Body: long[:n]}, false},
		} {
			if (Check(c.r) == api.OK) != c.may {
				t.Fatalf("%d bytes, of %d and %d: %v", n, len(c.r.Key), len(c.r.Body), Check(c.r))
			}
			checkRec(t, c.r)
		}
	}
	for b := range 256 {
		s := string([]byte{byte(b)})
		for _, r := range []api.Rec{{Key: s}, {Body: s}, {Key: "k" + s, Body: s + s}} {
			if Check(r) != api.OK {
				t.Errorf("%q: %v", s, Check(r))
			}
			checkRec(t, r)
		}
	}
}

// P10.2: its errors one by one, also where more than one thing is wrong.
func TestTakeErrors(t *testing.T) {
	good := sealed(laid(sample()))
	for _, c := range []struct {
		about string
		s     string
		want  api.Errno
	}{
		{"nothing", "", api.ErrCut},
		{"five bytes", good[:5], api.ErrCut},
		{"five bytes that say of none", zeros(5), api.ErrCut},
		{"six bytes", good[:6], api.ErrCut},
		{"a byte too few", good[:len(good)-1], api.ErrCut},
		{"a byte too few, and another sum", "\x00\x14" + zeros(23), api.ErrCut},
		{"more than any record has, that is not there", "\xff\xff" + zeros(65538), api.ErrCut},
		{"more than any record has, of another sum", "\xff\xff" + zeros(65539), api.ErrBad},
		{"another sum", "\x00\x13" + zeros(23), api.ErrBad},
		{"a sum of none", good[:2] + zeros(4) + good[6:], api.ErrBad},
		{"a body of nothing", sealed(""), api.ErrBad},
		{"a body of nothing, of another sum", zeros(6), api.ErrBad},
		{"eighteen bytes", sealed(zeros(18)), api.ErrBad},
		{"as many as any record, and no more", sealed(zeros(65535)), api.ErrBad},
		{"an Offset of MaxOffset", sealed(laid(changed(func(r *api.Rec) { r.Offset = 1 << 40 }))), api.ErrBad},
		{"an Offset below 0", sealed(laid(changed(func(r *api.Rec) { r.Offset = -1 }))), api.ErrBad},
		{"the least Offset there is", sealed(laid(changed(func(r *api.Rec) { r.Offset = math.MinInt }))), api.ErrBad},
		{"the greatest Offset there is", sealed(laid(changed(func(r *api.Rec) { r.Offset = math.MaxInt }))), api.ErrBad},
		{"a Time above MaxTime", sealed(laid(changed(func(r *api.Rec) { r.Time = 1<<40 + 1 }))), api.ErrBad},
		{"a Time below 0", sealed(laid(changed(func(r *api.Rec) { r.Time = -1 }))), api.ErrBad},
		{"a Time that is MaxTime in its lower bits", sealed(laid(changed(func(r *api.Rec) { r.Time = 1<<62 | 1<<40 }))), api.ErrBad},
		{"a QoS of 3", sealed(laid(changed(func(r *api.Rec) { r.QoS = 3 }))), api.ErrBad},
		{"a bit that means nothing", sealed(laid(changed(func(r *api.Rec) { r.QoS = 8 }))), api.ErrBad},
		{"a Gone one with a Body", sealed(laid(changed(func(r *api.Rec) { r.Gone = true }))), api.ErrBad},
		{"a Key too long", sealed(laid(api.Rec{Key: long[:1025]})), api.ErrBad},
		{"a Key of a byte more than there are", sealed(zeros(17) + "\x00\x04key"), api.ErrBad},
		{"a Key too long, that is not there", sealed(zeros(17) + "\xff\xffkey"), api.ErrBad},
		{"a Body too long", sealed(laid(api.Rec{Body: long[:1025]})), api.ErrBad},
	} {
		for _, rest := range []string{"", good} {
			s := c.s + rest
			if rest != "" && c.want == api.ErrCut {
				continue // what stands behind would be part of it
			}
			if r, k, e := Take(s); r != (api.Rec{}) || k != 0 || e != c.want {
				t.Errorf("%s: %.100v, %d, %v, want %v", c.about, r, k, e, c.want)
			}
			checkTake(t, s)
			if l, k, all := Scan(good + s); len(l) != 1 || k != len(good) || all != (s == "") {
				t.Errorf("%s, behind a record: %d records, %d bytes, %v", c.about, len(l), k, all)
			}
		}
	}
}

// P10.2: bodies that end within each of their parts.
func TestShortBodies(t *testing.T) {
	for n := range 19 {
		if r, k, e := Take(sealed(zeros(n))); r != (api.Rec{}) || k != 0 || e != api.ErrBad {
			t.Errorf("%d bytes: %v, %d, %v", n, r, k, e)
		}
	}
	if r, k, e := Take(sealed(zeros(19))); r != (api.Rec{}) || k != 25 || e != api.OK {
		t.Errorf("19 bytes: %v, %d, %v", r, k, e)
	}
}

// P10.2: every byte of flags, with and without a Body.
func TestFlags(t *testing.T) {
	for flags := range 256 {
		for _, body := range []string{"", "b"} {
			s := sealed(zeros(16) + string([]byte{byte(flags)}) + "\x00\x01k" + body)
			want := api.OK
			if flags >= 8 || flags%4 == 3 || flags >= 4 && body != "" {
				want = api.ErrBad
			}
			r, _, e := Take(s)
			if e != want || e == api.OK && (r.QoS != flags%4 || r.Gone != (flags >= 4)) {
				t.Errorf("%d, %q: %v, %v, want %v", flags, body, r, e, want)
			}
			checkTake(t, s)
		}
	}
}

// P10.2: every byte of the two long numbers, at each of its places.
func TestLongNumbers(t *testing.T) {
	for at := range 16 {
		for b := range 256 {
			body := []byte(zeros(19))
			body[at] = byte(b)
			s := sealed(string(body))
			n, most := b<<(8*(7-at%8)), 1<<40-1
			if at >= 8 {
				most = 1 << 40
			}
			_, k, e := Take(s)
			if may := n >= 0 && n <= most; may != (e == api.OK) || may != (k > 0) {
				t.Errorf("a byte %d at %d: %d, %v", b, at, k, e)
			}
			checkTake(t, s)
		}
	}
}

// P10.2: each length that a Key may say to have, in bodies of some lengths.
func TestKeyLengths(t *testing.T) {
	for _, size := range []int{0, 1, 2, 1023, 1024, 1025, 2047, 2048} {
		for n := range 2100 {
			s := sealed(zeros(17) + string([]byte{byte(n >> 8), byte(n)}) + long[:size])
			_, k, e := Take(s)
			if may := n <= 1024 && n <= size && size-n <= 1024; may != (e == api.OK) || may != (k > 0) {
				t.Fatalf("a Key of %d, of %d bytes: %d, %v", n, size, k, e)
			}
			checkTake(t, s)
		}
	}
}

// P10.2: the length of a body, told wrong: there are fewer bytes, or others.
func TestLengths(t *testing.T) {
	s := sealed(laid(sample()))
	for n := range 1 << 16 {
		x := string([]byte{byte(n >> 8), byte(n)}) + s[2:]
		want := api.OK
		if n > len(s)-6 {
			want = api.ErrCut
		} else if n < len(s)-6 {
			want = api.ErrBad
		}
		if _, _, e := Take(x); e != want {
			t.Fatalf("%d: %v, want %v", n, e, want)
		}
	}
}

// P10.2 and P10.4: a record that is cut off, or of which a bit is turned, is none.
func TestSpoilt(t *testing.T) {
	for _, r := range records() {
		s := sealed(laid(r))
		for n := range len(s) {
			if x, k, e := Take(s[:n]); x != (api.Rec{}) || k != 0 || e != api.ErrCut {
				t.Fatalf("%.100v cut at %d: %v, %d, %v", r, n, x, k, e)
			}
		}
		for i := range 8 * min(len(s), 200) {
			b := []byte(s)
			b[i/8] ^= 1 << (i % 8)
			if x, k, e := Take(string(b)); x != (api.Rec{}) || k != 0 || e == api.OK {
				t.Fatalf("%.100v, bit %d turned: %v, %d, %v", r, i, x, k, e)
			}
			checkTake(t, string(b))
		}
	}
}

// P10.3: the document's example.
func TestScanNothing(t *testing.T) {
	if l, k, all := Scan(""); len(l) != 0 || k != 0 || !all {
		t.Errorf("%v, %d, %v", l, k, all)
	}
}

// P10.3 and P10.4: records one behind the other, whole and cut off anywhere.
func TestScan(t *testing.T) {
	l := []api.Rec{sample(), {}, {Key: "k", Gone: true}, sample(), {Offset: 3, Body: long[:300]}}
	s := ""
	ends := []int{0}
	for _, r := range l {
		s += sealed(laid(r))
		ends = append(ends, len(s))
	}
	for n := range len(s) + 1 {
		i, whole := slices.BinarySearch(ends, n)
		if !whole {
			i--
		}
		got, k, all := Scan(s[:n])
		if !slices.Equal(got, l[:i]) || k != ends[i] || all != whole {
			t.Fatalf("cut at %d: %v, %d, %v", n, got, k, all)
		}
		checkScan(t, s[:n])
	}
}

// P10.3: what is none ends it, wherever it stands, whatever stands behind it.
func TestScanEnds(t *testing.T) {
	one := sealed(laid(sample()))
	turned := []byte(one)
	turned[len(turned)-1] ^= 1
	for _, bad := range []string{"\x00", "\x00\x13", zeros(6), zeros(40), one[:len(one)-1], one[1:], string(turned), sealed(laid(api.Rec{QoS: 3})), sealed("")} {
		for ahead := range 5 {
			for behind := range 3 {
				s := strings.Repeat(one, ahead) + bad + strings.Repeat(one, behind)
				l, k, all := Scan(s)
				if len(l) != ahead || k != ahead*len(one) || all {
					t.Errorf("%.40q behind %d, ahead of %d: %d records, %d bytes, %v", bad, ahead, behind, len(l), k, all)
				}
				checkScan(t, s)
			}
		}
	}
}

// P10.3: records are told as they stand, also where no log would have them so: Offsets and Times that fall, or stand twice.
func TestScanAnyOrder(t *testing.T) {
	var l []api.Rec
	s := ""
	for i := range 400 {
		r := api.Rec{Offset: i * 7 % 5, Time: 400 - i, Key: strconv.Itoa(i)}
		l = append(l, r)
		s += sealed(laid(r))
	}
	if got, k, all := Scan(s); !slices.Equal(got, l) || k != len(s) || !all {
		t.Errorf("%d of 400 records, %d bytes, %v", len(got), k, all)
	}
}

// P10.1 to P10.4: runs of records, some of them spoilt or such as may not be.
func TestRuns(t *testing.T) {
	r := rand.New(rand.NewSource(10))
	for range 3000 {
		s := ""
		for range r.Intn(8) {
			x := api.Rec{
				Offset: r.Intn(1 << (1 + r.Intn(41))), Time: r.Intn(1 << (1 + r.Intn(41))), QoS: r.Intn(3),
				Key: long[:r.Intn(1<<r.Intn(6))], Body: long[:r.Intn(1<<r.Intn(8))],
			}
			if r.Intn(4) == 0 {
				x.Gone, x.Body = true, ""
			}
			if r.Intn(12) == 0 {
				x.QoS = r.Intn(256)
			}
			checkRec(t, x)
			s += sealed(laid(x))
		}
		if s != "" && r.Intn(2) == 0 {
			b := []byte(s)
			b[r.Intn(len(b))] ^= byte(1 + r.Intn(255))
			s = string(b)
		}
		if r.Intn(2) == 0 {
			s = s[:r.Intn(len(s)+1)]
		}
		checkTake(t, s)
	}
}

// R2: what is told is one's own, spare room too.
func TestNothingShared(t *testing.T) {
	s := ""
	for _, r := range records() {
		s += sealed(laid(r))
	}
	first, _, _ := Scan(s)
	first = first[:cap(first)]
	for i := range first {
		first[i] = api.Rec{Offset: -1}
	}
	if l, k, all := Scan(s); !slices.Equal(l, records()) || k != len(s) || !all {
		t.Errorf("Scan tells the same memory twice: %.300v", l)
	}
}

// P10.1 to P10.4, of any records and any bytes.
func FuzzRec(f *testing.F) {
	f.Add(1, 2, "key", "body", 1, false, 5)
	f.Add(1<<40-1, 1<<40, "\xff", "", 2, true, 0)
	f.Add(-1, 1<<62, "", "\x00\x13", 3, true, 40)
	f.Fuzz(func(t *testing.T, offset, time int, key, body string, qos int, gone bool, at int) {
		r := api.Rec{Offset: offset, Time: time, Key: key, Body: body, QoS: qos, Gone: gone}
		checkRec(t, r)
		checkTake(t, body)
		if len(body) < 1<<16 {
			checkTake(t, sealed(body)+key)
		}
		if len(key) > 1024 || len(body) > 1024 {
			return
		}
		s := sealed(laid(r))
		s += s
		i := min(max(at, 0), len(s))
		checkTake(t, s[:i])
		checkTake(t, s[:i]+key+s[i:])
	})
}
