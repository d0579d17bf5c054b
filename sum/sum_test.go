package sum

import (
	"hash/crc32"
	"math/rand"
	"strings"
	"testing"
)

// polynomial is CRC-32C's, its bits turned round.
const polynomial = 0x82f63b78

// slow says a sum as the document has it: bit by bit, in all of its words.
func slow(s uint32, b string) uint32 {
	s ^= 0xffffffff
	for i := range len(b) {
		s ^= uint32(b[i])
		for range 8 {
			low := s & 1
			s >>= 1
			if low == 1 {
				s ^= polynomial
			}
		}
	}
	return s ^ 0xffffffff
}

// samples tells bytes of many lengths and kinds: texts, no texts, zeros, ones.
func samples() []string {
	l := []string{"", "a", "\x00", "\x80", "\xff", "123456789", "aé", "\xed\xa0\x80", "\x00\x00\x00\x00", "\xff\xff\xff\xff"}
	for c := range 256 {
		l = append(l, string([]byte{byte(c)}))
	}
	r := rand.New(rand.NewSource(3))
	for n := range 80 {
		b := make([]byte, n)
		r.Read(b)
		l = append(l, string(b), strings.Repeat("\x00", n), strings.Repeat("\xff", n))
	}
	return l
}

// ahead tells sums that may stand ahead.
func ahead() []uint32 {
	l := []uint32{0, 1, 0x7fffffff, 0x80000000, 0xffffffff, polynomial}
	for i := range 32 {
		l = append(l, 1<<i)
	}
	return l
}

// P3.1: known sums: the document's example, and those of RFC 3720 (B.4).
func TestKnown(t *testing.T) {
	up, down := make([]byte, 32), make([]byte, 32)
	for i := range up {
		up[i], down[i] = byte(i), byte(31-i)
	}
	for _, c := range []struct {
		b    string
		want uint32
	}{
		{"", 0},
		{"123456789", 0xe3069283},
		{strings.Repeat("\x00", 32), 0x8a9136aa},
		{strings.Repeat("\xff", 32), 0x62a8ab43},
		{string(up), 0x46dd794e},
		{string(down), 0x113fdb5c},
	} {
		if s := Sum(0, c.b); s != c.want {
			t.Errorf("Sum(0, %q): %#x, want %#x", c.b, s, c.want)
		}
	}
}

// P3.1: the same as bit by bit, and as the library has it, whatever stands ahead.
func TestSum(t *testing.T) {
	table := crc32.MakeTable(polynomial)
	for _, b := range samples() {
		for _, s := range ahead() {
			got, want, lib := Sum(s, b), slow(s, b), crc32.Update(s, table, []byte(b))
			if got != want || got != lib {
				t.Fatalf("Sum(%#x, %q): %#x, want %#x, the library's %#x", s, b, got, want, lib)
			}
		}
	}
}

// P3.1: bytes that are no text count one by one, as many as there may be.
func TestLong(t *testing.T) {
	b := strings.Repeat("a\x00é\xff\xf0\x9f", 1<<18)
	want := crc32.Checksum([]byte(b), crc32.MakeTable(crc32.Castagnoli))
	if s := Sum(0, b); s != want {
		t.Errorf("%#x, want %#x", s, want)
	}
}

// P3.2: the sum of a beginning goes on to that of the whole, wherever it is cut.
func TestGoesOn(t *testing.T) {
	for _, b := range samples() {
		for _, s := range ahead() {
			whole := Sum(s, b)
			for i := range len(b) + 1 {
				if got := Sum(Sum(s, b[:i]), b[i:]); got != whole {
					t.Fatalf("%#x, %q cut at %d: %#x, want %#x", s, b, i, got, whole)
				}
			}
		}
	}
}

// P3.2: one turned bit changes the sum, in the bytes and in what stands ahead of them.
func TestTurnedBit(t *testing.T) {
	for _, b := range samples() {
		whole := Sum(0, b)
		for i := range 8 * len(b) {
			l := []byte(b)
			l[i/8] ^= 1 << (i % 8)
			if Sum(0, string(l)) == whole {
				t.Fatalf("%q, bit %d: the same sum", b, i)
			}
		}
		for i := range 32 {
			if Sum(1<<i, b) == whole {
				t.Fatalf("%q, bit %d ahead: the same sum", b, i)
			}
		}
	}
}

func FuzzSum(f *testing.F) {
	f.Add(uint32(0), "123456789", 4)
	f.Fuzz(func(t *testing.T, s uint32, b string, at int) {
		if got, want := Sum(s, b), slow(s, b); got != want {
			t.Fatalf("Sum(%#x, %q): %#x, want %#x", s, b, got, want)
		}
		i := min(max(at, 0), len(b))
		if Sum(Sum(s, b[:i]), b[i:]) != Sum(s, b) {
			t.Fatalf("%#x, %q cut at %d", s, b, i)
		}
	})
}
