package rec

import (
	"encoding/binary"
	"hash/crc32"
	"slices"
	"testing"

	"fairway/api"
)

// The model of chapter 10 writes a record by the library's own big-endian numbers and sums, whatever it is; it takes one by reading it loosely and writing it again.

// wantMayBe says whether a record may be.
func wantMayBe(r api.Rec) bool {
	switch {
	case r.Offset < 0 || r.Offset >= 1<<40, r.Time < 0 || r.Time > 1<<40:
		return false
	case len(r.Key) > 1024, len(r.Body) > 1024:
		return false
	case r.Gone && len(r.Body) > 0:
		return false
	}
	return r.QoS == 0 || r.QoS == 1 || r.QoS == 2
}

// laid says the body of a record, whether or not it may be.
func laid(r api.Rec) string {
	b := binary.BigEndian.AppendUint64(nil, uint64(r.Offset))
	b = binary.BigEndian.AppendUint64(b, uint64(r.Time))
	flags := byte(r.QoS)
	if r.Gone {
		flags += 4
	}
	b = binary.BigEndian.AppendUint16(append(b, flags), uint16(len(r.Key)))
	return string(b) + r.Key + r.Body
}

// sealed says bytes with their length and the sum of both ahead.
func sealed(body string) string {
	size := binary.BigEndian.AppendUint16(nil, uint16(len(body)))
	sum := crc32.Checksum(append(slices.Clone(size), body...), crc32.MakeTable(crc32.Castagnoli))
	return string(binary.BigEndian.AppendUint32(size, sum)) + body
}

// loose says what stands in a body, as far as it is long enough.
func loose(body string) (r api.Rec, ok bool) {
	if len(body) < 19 {
		return api.Rec{}, false
	}
	b := []byte(body)
	key := int(binary.BigEndian.Uint16(b[17:]))
	if len(b) < 19+key {
		return api.Rec{}, false
	}
	return api.Rec{
		Offset: int(binary.BigEndian.Uint64(b)),
		Time:   int(binary.BigEndian.Uint64(b[8:])),
		Key:    string(b[19 : 19+key]),
		Body:   string(b[19+key:]),
		QoS:    int(b[16]) % 4,
		Gone:   b[16]/4%2 == 1,
	}, true
}

// wantTake says the record that s begins with.
func wantTake(s string) (api.Rec, int, api.Errno) {
	if len(s) < 6 || len(s) < 6+int(s[0])*256+int(s[1]) {
		return api.Rec{}, 0, api.ErrCut
	}
	k := 6 + int(s[0])*256 + int(s[1])
	r, ok := loose(s[6:k])
	if !ok || !wantMayBe(r) || sealed(laid(r)) != s[:k] {
		return api.Rec{}, 0, api.ErrBad
	}
	return r, k, api.OK
}

// wantScan says the records of s, one behind the other.
func wantScan(s string) ([]api.Rec, int, bool) {
	r, k, e := wantTake(s)
	if e != api.OK {
		return nil, 0, s == ""
	}
	l, n, all := wantScan(s[k:])
	return append([]api.Rec{r}, l...), k + n, all
}

// checkRec holds P10.1, and of P10.4 that what is written is taken, for one record.
func checkRec(t *testing.T, r api.Rec) {
	t.Helper()
	want, size, bad := "", 0, api.ErrForm
	if wantMayBe(r) {
		want = sealed(laid(r))
		size, bad = len(want), api.OK
	}
	if e := Check(r); e != bad {
		t.Fatalf("Check(%.300v): %v, want %v", r, e, bad)
	}
	if s, e := Bytes(r); s != want || e != bad {
		t.Fatalf("Bytes(%.300v): %.300q, %v, want %.300q, %v", r, s, e, want, bad)
	}
	if n, e := Size(r); n != size || e != bad {
		t.Fatalf("Size(%.300v): %d, %v, want %d, %v", r, n, e, size, bad)
	}
	if bad != api.OK {
		return
	}
	for _, rest := range []string{"", "\x00", want, want[1:]} {
		if back, k, e := Take(want + rest); back != r || k != size || e != api.OK {
			t.Fatalf("Take(%.300q): %.300v, %d, %v, want %.300v", want+rest, back, k, e, r)
		}
	}
}

// checkTake holds P10.2 and P10.3, and of P10.4 that what is taken was written so, for any bytes.
func checkTake(t *testing.T, s string) {
	t.Helper()
	want, size, bad := wantTake(s)
	r, k, e := Take(s)
	if r != want || k != size || e != bad {
		t.Fatalf("Take(%.300q): %.300v, %d, %v, want %.300v, %d, %v", s, r, k, e, want, size, bad)
	}
	if e == api.OK {
		if back, e := Bytes(r); back != s[:k] || e != api.OK {
			t.Fatalf("Bytes(Take(%.300q)): %.300q, %v", s, back, e)
		}
	}
	checkScan(t, s)
}

// checkScan holds P10.3 for any bytes.
func checkScan(t *testing.T, s string) {
	t.Helper()
	want, size, wantAll := wantScan(s)
	l, k, all := Scan(s)
	if !slices.Equal(l, want) || k != size || all != wantAll {
		t.Fatalf("Scan(%.300q): %.300v, %d, %v, want %.300v, %d, %v", s, l, k, all, want, size, wantAll)
	}
	again := ""
	for _, r := range l {
		one, _ := Bytes(r)
		again += one
	}
	if again != s[:k] || all != (k == len(s)) {
		t.Fatalf("Scan(%.300q): %d bytes, %v, of which the records are %.300q", s, k, all, again)
	}
}
