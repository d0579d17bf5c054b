package disk

import (
	"math"
	"math/rand"
	"slices"
	"strconv"
	"strings"
	"testing"

	"fairway/api"
)

const kinds = "Append Sync Cut Rename Del" // the calls that count

// many says names, and a text of n bytes for each.
func many(count, n int) (names, texts []string) {
	for i := range count {
		names = append(names, "f"+strconv.Itoa(i))
		texts = append(texts, strings.Repeat(string(rune('a'+i%26)), n))
	}
	return names, texts
}

// made says a disk, and its model, of files that are all safe.
func made(t *testing.T, names, texts []string) (*Disk, *model) {
	t.Helper()
	d, e := New(names, texts)
	m := wantNew(names, texts)
	if d == nil || e != api.OK || m == nil {
		t.Fatalf("New: %v, %v, %v", d, e, m)
	}
	return d, m
}

// begun says the disk that most tests begin with: "full" is all safe, "part" is safe up to its "12", "new" is not safe at all, "none" is empty.
func begun(t *testing.T) (*Disk, *model) {
	t.Helper()
	d, m := made(t, []string{"full", "part"}, []string{"abc", "12"})
	for _, o := range []op{{"Append", "part", "345", 0}, {"Append", "new", "xyz", 0}, {"Append", "none", "", 0}} {
		checkOp(t, d, m, o)
	}
	return d, m
}

// checkNew holds New.
func checkNew(t *testing.T, names, texts []string, may bool) {
	t.Helper()
	m := wantNew(names, texts)
	if (m != nil) != may {
		t.Fatalf("the model says %v of %.200q", !may, names)
	}
	d, e := New(names, texts)
	if !may {
		if d != nil || e != api.ErrForm {
			t.Errorf("New(%.200q, %d texts): %v, %v", names, len(texts), d != nil, e)
		}
		return
	}
	if d == nil || e != api.OK {
		t.Fatalf("New(%.200q, %d texts): %v, %v", names, len(texts), d != nil, e)
	}
	checkFiles(t, d, m, "", "nobody")
	checkCrash(t, d, m, nil)
}

// P9.1: files that may be, and that may not.
func TestNew(t *testing.T) {
	for _, c := range []struct {
		names, texts []string
		may          bool
	}{
		{nil, nil, true},
		{[]string{}, []string{}, true},
		{nil, []string{}, true},
		{[]string{"a"}, []string{""}, true},
		{[]string{"a"}, []string{"\x00\xff bytes\n"}, true},
		{[]string{"b", "a", "c"}, []string{"2", "1", "3"}, true}, // in any order
		{[]string{"a", "A", "a.", ".a", "aa"}, []string{"1", "2", "3", "4", "5"}, true},
		{[]string{"../a/b"}, []string{"1"}, true},
		{[]string{"a", "a"}, []string{"1", "1"}, false},
		{[]string{"a", "a"}, []string{"1", "2"}, false},
		{[]string{"a", "a"}, []string{"", ""}, false},
		{[]string{"a", "b", "a"}, []string{"", "1", "1"}, false},
		{[]string{"a", "b", "c", "b"}, []string{"1", "2", "3", "4"}, false},
		{[]string{"a"}, nil, false},
		{nil, []string{"1"}, false},
		{nil, []string{""}, false},
		{[]string{"a", "b"}, []string{"1"}, false},
		{[]string{"a"}, []string{"1", ""}, false},
		{[]string{""}, []string{"1"}, false},
		{[]string{"a", ""}, []string{"1", "2"}, false},
		{[]string{"a b"}, []string{"1"}, false},
	} {
		checkNew(t, c.names, c.texts, c.may)
	}
}

// P9.1: how many files, how long, and how much together.
func TestNewLimits(t *testing.T) {
	for _, c := range []struct {
		count, n int
		last     string
		may      bool
	}{
		{63, 0, "", true},
		{64, 0, "", false},
		{100, 0, "", false},
		{63, 16384, strings.Repeat("z", 16384), true},
		{63, 16384, strings.Repeat("z", 16385), false},
		{0, 0, strings.Repeat("z", 65535), true},
		{0, 0, strings.Repeat("z", 65536), true},
		{0, 0, strings.Repeat("z", 65537), false},
		{15, 65536, strings.Repeat("z", 65536), true},
		{16, 65536, "", true},
		{16, 65536, "z", false},
		{15, 65536, strings.Repeat("z", 65537), false},
		{17, 65536, "", false},
	} {
		names, texts := many(c.count, c.n)
		checkNew(t, append(names, "last"), append(texts, c.last), c.may)
		checkNew(t, append([]string{"last"}, names...), append([]string{c.last}, texts...), c.may)
	}
}

// P9.1 and P9.2: each byte in a name, at each place, and names of each length: New, Append and Rename ask the same.
func TestFileNames(t *testing.T) {
	var names []string
	for b := range 256 {
		s := string([]byte{byte(b)})
		names = append(names, s, s+"a", "a"+s, "a"+s+"b", strings.Repeat(s, 64))
	}
	for n := range 70 {
		names = append(names, strings.Repeat("~", n), strings.Repeat("!", n))
	}
	for _, s := range []string{"é", "aé", "\u0121", "a\u0121", "\U00010041", "\ufffd", "\xc3", strings.Repeat("é", 32), strings.Repeat("x", 1000), strings.Repeat("\xff", 64), strings.Repeat("x", 63) + " ", strings.Repeat("x", 64) + " "} {
		names = append(names, s)
	}
	for _, name := range names {
		may := wantName(name)
		checkNew(t, []string{name}, []string{"1"}, may)
		checkNew(t, []string{"other", name}, []string{"1", "2"}, may)
		d, m := made(t, []string{"other"}, []string{"1"})
		checkOp(t, d, m, op{"Append", name, "", 0})
		checkOp(t, d, m, op{"Append", name, "x", 0})
		checkOp(t, d, m, op{"Rename", "other", name, 0})
		checkFiles(t, d, m, name, "other")
		if names, _ := d.Names(); may != slices.Equal(names, []string{name}) {
			t.Errorf("%q: %q", name, names)
		}
		checkCrash(t, d, m, []int{1})
	}
	if !wantName("!") || !wantName("~") || wantName(" ") || wantName("\x7f") || wantName("\x80") || !wantName(strings.Repeat("a", 64)) || wantName(strings.Repeat("a", 65)) {
		t.Error("the model's own bounds")
	}
}

// P9.1: names by their bytes, however they came.
func TestNamesSorted(t *testing.T) {
	want := []string{"!", "-", ".", "0", "10", "2", "A", "B", "_", "a", "a.", "a/b", "aa", "b", "~"}
	r := rand.New(rand.NewSource(9))
	for range 50 {
		names := slices.Clone(want)
		r.Shuffle(len(names), func(i, k int) { names[i], names[k] = names[k], names[i] })
		d, _ := made(t, names[:5], make([]string, 5))
		for _, name := range names[5:] {
			if e := d.Append(name, name); e != api.OK {
				t.Fatalf("Append(%q): %v", name, e)
			}
		}
		if l, e := d.Names(); !slices.Equal(l, want) || e != api.OK {
			t.Fatalf("Names: %q, %v", l, e)
		}
		if l, _ := d.Crash(nil); !slices.Equal(l, want) {
			t.Fatalf("Crash: %q", l)
		}
	}
}

// P9.1: what is told of files, and of what is none.
func TestSizeAndRead(t *testing.T) {
	d, m := begun(t)
	for name, want := range map[string]string{"full": "abc", "part": "12345", "new": "xyz", "none": ""} {
		n, e := d.Size(name)
		s, f := d.Read(name)
		if n != len(want) || e != api.OK || s != want || f != api.OK {
			t.Errorf("%s: %d, %v, %q, %v", name, n, e, s, f)
		}
	}
	for _, name := range []string{"", "nobody", "FULL", "full ", "ful", "fulll", "\xff", strings.Repeat("x", 65)} {
		n, e := d.Size(name)
		s, f := d.Read(name)
		if n != 0 || e != api.ErrNone || s != "" || f != api.ErrNone {
			t.Errorf("%q: %d, %v, %q, %v", name, n, e, s, f)
		}
	}
	checkFiles(t, d, m, "nobody")
	empty, _ := made(t, nil, nil)
	if l, e := empty.Names(); len(l) != 0 || e != api.OK {
		t.Errorf("Names of none: %q, %v", l, e)
	}
}

// P9.2: each call, what it answers, and what is left behind it, also by a crash.
func TestCalls(t *testing.T) {
	for _, c := range []struct {
		o          op
		want       api.Errno
		names      string
		read, kept []string // of these, in their order
	}{
		{op{"Append", "full", "de", 0}, api.OK, "full new none part", []string{"abcde", "xyz", "", "12345"}, []string{"abc", "", "", "12"}},
		{op{"Append", "full", "", 0}, api.OK, "full new none part", []string{"abc", "xyz", "", "12345"}, []string{"abc", "", "", "12"}},
		{op{"Append", "part", "6", 0}, api.OK, "full new none part", []string{"abc", "xyz", "", "123456"}, []string{"abc", "", "", "12"}},
		{op{"Append", "more", "6", 0}, api.OK, "full more new none part", []string{"abc", "6", "xyz", "", "12345"}, []string{"abc", "", "", "", "12"}},
		{op{"Append", "more", "", 0}, api.OK, "full more new none part", []string{"abc", "", "xyz", "", "12345"}, []string{"abc", "", "", "", "12"}},
		{op{"Append", "", "6", 0}, api.ErrForm, "full new none part", nil, nil},
		{op{"Append", "a b", "6", 0}, api.ErrForm, "full new none part", nil, nil},
		{op{"Append", "a b", strings.Repeat("6", 1<<21), 0}, api.ErrForm, "full new none part", nil, nil},
		{op{"Append", "full", strings.Repeat("6", 1<<21), 0}, api.ErrFull, "full new none part", nil, nil},
		{op{"Append", "more", strings.Repeat("6", 65537), 0}, api.ErrFull, "full new none part", nil, nil},
		{op{"Sync", "full", "", 0}, api.OK, "full new none part", []string{"abc", "xyz", "", "12345"}, []string{"abc", "", "", "12"}},
		{op{"Sync", "new", "", 0}, api.OK, "full new none part", []string{"abc", "xyz", "", "12345"}, []string{"abc", "xyz", "", "12"}},
		{op{"Sync", "part", "", 0}, api.OK, "full new none part", []string{"abc", "xyz", "", "12345"}, []string{"abc", "", "", "12345"}},
		{op{"Sync", "nobody", "", 0}, api.ErrNone, "full new none part", nil, nil},
		{op{"Sync", "", "", 0}, api.ErrNone, "full new none part", nil, nil},
		{op{"Cut", "full", "", 2}, api.OK, "full new none part", []string{"ab", "xyz", "", "12345"}, []string{"ab", "", "", "12"}},
		{op{"Cut", "full", "", 0}, api.OK, "full new none part", []string{"", "xyz", "", "12345"}, []string{"", "", "", "12"}},
		{op{"Cut", "full", "", 3}, api.OK, "full new none part", []string{"abc", "xyz", "", "12345"}, []string{"abc", "", "", "12"}},
		{op{"Cut", "part", "", 1}, api.OK, "full new none part", []string{"abc", "xyz", "", "1"}, []string{"abc", "", "", "1"}},
		{op{"Cut", "part", "", 2}, api.OK, "full new none part", []string{"abc", "xyz", "", "12"}, []string{"abc", "", "", "12"}},
		{op{"Cut", "part", "", 4}, api.OK, "full new none part", []string{"abc", "xyz", "", "1234"}, []string{"abc", "", "", "12"}},
		{op{"Cut", "none", "", 0}, api.OK, "full new none part", []string{"abc", "xyz", "", "12345"}, []string{"abc", "", "", "12"}},
		{op{"Cut", "full", "", 4}, api.ErrForm, "full new none part", nil, nil},
		{op{"Cut", "full", "", -1}, api.ErrForm, "full new none part", nil, nil},
		{op{"Cut", "full", "", math.MaxInt}, api.ErrForm, "full new none part", nil, nil},
		{op{"Cut", "full", "", math.MinInt}, api.ErrForm, "full new none part", nil, nil},
		{op{"Cut", "none", "", 1}, api.ErrForm, "full new none part", nil, nil},
		{op{"Cut", "nobody", "", -1}, api.ErrNone, "full new none part", nil, nil},
		{op{"Cut", "nobody", "", 0}, api.ErrNone, "full new none part", nil, nil},
		{op{"Rename", "full", "more", 0}, api.OK, "more new none part", []string{"abc", "xyz", "", "12345"}, []string{"abc", "", "", "12"}},
		{op{"Rename", "full", "part", 0}, api.OK, "new none part", []string{"xyz", "", "abc"}, []string{"", "", "abc"}},
		{op{"Rename", "full", "new", 0}, api.OK, "new none part", []string{"abc", "", "12345"}, []string{"abc", "", "12"}},
		{op{"Rename", "full", "full", 0}, api.OK, "full new none part", []string{"abc", "xyz", "", "12345"}, []string{"abc", "", "", "12"}},
		{op{"Rename", "none", "full", 0}, api.OK, "full new part", []string{"", "xyz", "12345"}, []string{"", "", "12"}}, // of nothing all is safe
		{op{"Rename", "none", "none", 0}, api.OK, "full new none part", []string{"abc", "xyz", "", "12345"}, []string{"abc", "", "", "12"}},
		{op{"Rename", "part", "more", 0}, api.ErrState, "full new none part", nil, nil},
		{op{"Rename", "part", "full", 0}, api.ErrState, "full new none part", nil, nil},
		{op{"Rename", "part", "part", 0}, api.ErrState, "full new none part", nil, nil},
		{op{"Rename", "new", "more", 0}, api.ErrState, "full new none part", nil, nil},
		{op{"Rename", "part", "a b", 0}, api.ErrForm, "full new none part", nil, nil},
		{op{"Rename", "full", "", 0}, api.ErrForm, "full new none part", nil, nil},
		{op{"Rename", "nobody", "more", 0}, api.ErrNone, "full new none part", nil, nil},
		{op{"Rename", "nobody", "", 0}, api.ErrNone, "full new none part", nil, nil},
		{op{"Rename", "nobody", "nobody", 0}, api.ErrNone, "full new none part", nil, nil},
		{op{"Rename", "nobody", "full", 0}, api.ErrNone, "full new none part", nil, nil},
		{op{"Del", "full", "", 0}, api.OK, "new none part", []string{"xyz", "", "12345"}, []string{"", "", "12"}},
		{op{"Del", "part", "", 0}, api.OK, "full new none", []string{"abc", "xyz", ""}, []string{"abc", "", ""}},
		{op{"Del", "none", "", 0}, api.OK, "full new part", []string{"abc", "xyz", "12345"}, []string{"abc", "", "12"}},
		{op{"Del", "nobody", "", 0}, api.ErrNone, "full new none part", nil, nil},
		{op{"Del", "", "", 0}, api.ErrNone, "full new none part", nil, nil},
	} {
		if c.want != api.OK { // beside an error nothing has changed
			c.read, c.kept = []string{"abc", "xyz", "", "12345"}, []string{"abc", "", "", "12"}
		}
		d, m := begun(t)
		if e := run(d, c.o); e != c.want {
			t.Errorf("%v: %v, want %v", c.o, e, c.want)
		}
		m.do(c.o)
		checkFiles(t, d, m, c.o.name, c.o.text)
		names, _ := d.Names()
		var read []string
		for _, name := range names {
			s, _ := d.Read(name)
			read = append(read, s)
		}
		kept, texts := d.Crash(nil)
		if strings.Join(names, " ") != c.names || !slices.Equal(read, c.read) || !slices.Equal(kept, names) || !slices.Equal(texts, c.kept) {
			t.Errorf("%v: %q, %q, %q, %q, want %q, %q, %q", c.o, names, read, kept, texts, c.names, c.read, c.kept)
		}
	}
}

// P9.2: a file is full, all files together are, or there are as many as may be; what goes makes room.
func TestFull(t *testing.T) {
	z := strings.Repeat("z", 65536)
	names, texts := many(64, 16383)
	all, _ := made(t, names, texts) // 64 bytes of Room are left, and no name
	for _, c := range []struct {
		o    op
		want api.Errno
	}{
		{op{"Append", "f0", z[:65], 0}, api.ErrFull},
		{op{"Append", "more", "", 0}, api.ErrFull},
		{op{"Append", "more", "z", 0}, api.ErrFull},
		{op{"Append", "f0", z[:63], 0}, api.OK},
		{op{"Append", "f1", "zz", 0}, api.ErrFull},
		{op{"Append", "f1", "z", 0}, api.OK},
		{op{"Append", "f2", "z", 0}, api.ErrFull},
		{op{"Append", "f2", "", 0}, api.OK},
		{op{"Sync", "f1", "", 0}, api.OK},
		{op{"Rename", "f1", "more", 0}, api.OK},
		{op{"Append", "f1", "", 0}, api.ErrFull},
		{op{"Cut", "f2", "", 16000}, api.OK},
		{op{"Append", "f3", z[:384], 0}, api.ErrFull},
		{op{"Append", "f3", z[:383], 0}, api.OK},
		{op{"Sync", "more", "", 0}, api.OK},
		{op{"Rename", "more", "f4", 0}, api.OK},
		{op{"Append", "f1", z[:16384], 0}, api.ErrFull},
		{op{"Append", "f1", z[:16383], 0}, api.OK},
		{op{"Append", "more", "", 0}, api.ErrFull},
		{op{"Del", "f5", "", 0}, api.OK},
		{op{"Append", "more", z[:16383], 0}, api.OK},
		{op{"Append", "f5", "", 0}, api.ErrFull},
		{op{"Del", "f6", "", 0}, api.OK},
		{op{"Append", "f7", z[:16383], 0}, api.OK},
		{op{"Append", "f8", "z", 0}, api.ErrFull},
		{op{"Append", "f6", "", 0}, api.OK},
	} {
		if e := run(all, c.o); e != c.want {
			t.Fatalf("%v: %v, want %v", c.o, e, c.want)
		}
	}
	d, m := made(t, []string{"a"}, []string{z[:65530]})
	for _, o := range []op{{"Append", "a", z[:7], 0}, {"Append", "a", z[:5], 0}, {"Append", "a", "zz", 0}, {"Append", "a", "z", 0}, {"Append", "a", "z", 0}, {"Append", "a", "", 0}, {"Append", "b", z, 0}, {"Append", "b", "z", 0}, {"Cut", "a", "", 65535}, {"Append", "a", "y", 0}, {"Append", "c", z + "z", 0}} {
		checkOp(t, d, m, o)
		checkFiles(t, d, m, "c")
	}
	if n, e := d.Size("a"); n != 65536 || e != api.OK {
		t.Errorf("%d, %v", n, e)
	}
}

// P9.2: what is cut away and written anew is not safe, what was safe ahead of it is, whatever name it has by then.
func TestCutAndWriteAnew(t *testing.T) {
	checkOps(t, []string{"a"}, []string{"abcdef"}, []op{
		{"Cut", "a", "", 4}, {"Append", "a", "EF", 0}, {"Cut", "a", "", 5}, {"Append", "a", "ghi", 0}, {"Cut", "a", "", 2},
		{"Rename", "a", "b", 0}, {"Append", "b", "CD", 0}, {"Append", "a", "new", 0}, {"Rename", "b", "a", 0}, {"Sync", "b", "", 0}, {"Rename", "b", "a", 0}, {"Append", "a", "!", 0},
	})
	d, _ := made(t, []string{"a"}, []string{"abcdef"})
	for _, o := range []op{{"Cut", "a", "", 2}, {"Append", "a", "xyz", 0}, {"Cut", "a", "", 4}} {
		if e := run(d, o); e != api.OK {
			t.Fatalf("%v: %v", o, e)
		}
	}
	if _, texts := d.Crash(nil); texts[0] != "ab" {
		t.Errorf("%q", texts)
	}
	if _, texts := d.Crash([]int{1}); texts[0] != "abx" {
		t.Errorf("%q", texts)
	}
}

// P9.3: the power goes ahead of the n-th call that counts, whichever it is, and what it would answer.
func TestOff(t *testing.T) {
	calls := []op{ // each is told OK where it stands
		{"Append", "full", "d", 0}, {"Sync", "full", "", 0}, {"Cut", "part", "", 1}, {"Rename", "full", "more", 0}, {"Del", "none", "", 0}, {"Append", "last", "", 0},
	}
	refused := []op{
		{"Append", "", "d", 0}, {"Append", "full", strings.Repeat("x", 65534), 0}, {"Sync", "nobody", "", 0}, {"Cut", "full", "", 9}, {"Cut", "nobody", "", 0}, {"Rename", "full", "", 0}, {"Rename", "part", "more", 0}, {"Rename", "nobody", "more", 0}, {"Del", "nobody", "", 0},
	}
	for _, l := range [][]op{calls, refused} {
		for n := -2; n < len(l)+2; n++ {
			d, m := begun(t)
			d.Off(n)
			m.do(op{kind: "Off", n: n})
			for i, o := range l {
				checkFiles(t, d, m, "nobody") // which does not count
				want := m.do(o)
				e := run(d, o)
				if e != want || (e == api.ErrPower) != (i+1 >= n) {
					t.Fatalf("call %d of %d: %v: %v, want %v", i+1, n, o, e, want)
				}
			}
			checkFiles(t, d, m, "nobody")
			checkCrash(t, d, m, []int{0, 1, 0, 2})
		}
	}
}

// P9.3: far away, asked anew, and where there is no power any more.
func TestOffAgain(t *testing.T) {
	for _, c := range []struct {
		offs []int // each ahead of a call that counts
		on   int   // so many calls are answered
	}{
		{[]int{math.MinInt}, 0},
		{[]int{0}, 0},
		{[]int{1}, 0},
		{[]int{2}, 1},
		{[]int{1000}, 999},
		{[]int{1 << 32}, 2000},
		{[]int{math.MaxInt}, 2000},
		{[]int{3, 3, 3, 3}, 5}, // the last one counts from where it stands
		{[]int{2, 10}, 10},
		{[]int{10, 2}, 2},
		{[]int{5, 0}, 1},
		{[]int{1, 5}, 0}, // off is off
		{[]int{0, 1 << 32}, 0},
	} {
		d, m := begun(t)
		on := 0
		for i := range 2000 {
			if i < len(c.offs) {
				checkOp(t, d, m, op{kind: "Off", n: c.offs[i]})
			}
			o := op{strings.Fields(kinds)[i%5], "nobody", "x y", 0}
			if i%5 == 0 {
				o.name = "x y"
			}
			checkOp(t, d, m, o)
			if !m.dark {
				on++
			}
		}
		if _, e := d.Names(); on != c.on || (e == api.OK) != (on == 2000) {
			t.Errorf("%v: %d, %v", c.offs, on, e)
		}
	}
}

// P9.3: nothing is done, and nothing is told, without power.
func TestNoPower(t *testing.T) {
	for _, off := range []func(d *Disk){func(d *Disk) { d.Off(0) }, func(d *Disk) { d.Off(1); d.Del("full") }, func(d *Disk) { d.Crash(nil) }} {
		d, _ := begun(t)
		off(d)
		for _, o := range []op{{"Append", "full", "d", 0}, {"Append", "more", "", 0}, {"Append", "", "", 0}, {"Sync", "part", "", 0}, {"Sync", "nobody", "", 0}, {"Cut", "full", "", 0}, {"Cut", "full", "", -1}, {"Rename", "full", "more", 0}, {"Rename", "full", "", 0}, {"Del", "full", "", 0}, {"Del", "nobody", "", 0}} {
			if e := run(d, o); e != api.ErrPower {
				t.Errorf("%v: %v", o, e)
			}
			d.Off(9)
		}
		l, e := d.Names()
		n, f := d.Size("full")
		s, g := d.Read("nobody")
		if l != nil || e != api.ErrPower || n != 0 || f != api.ErrPower || s != "" || g != api.ErrPower {
			t.Errorf("%q, %v, %d, %v, %q, %v", l, e, n, f, s, g)
		}
		if names, texts := d.Crash([]int{9, 9, 9, 9}); !slices.Equal(names, []string{"full", "new", "none", "part"}) || !slices.Equal(texts, []string{"abc", "xyz", "", "12345"}) {
			t.Errorf("%q, %q", names, texts)
		}
	}
}

// P9.4: a pick each, by names, also for a file that has no rest.
func TestPicks(t *testing.T) {
	for _, c := range []struct {
		picks []int
		want  []string // of full, new, none, part
	}{
		{nil, []string{"abc", "", "", "12"}},
		{[]int{}, []string{"abc", "", "", "12"}},
		{[]int{1}, []string{"abc", "", "", "12"}},
		{[]int{0, 1}, []string{"abc", "x", "", "12"}},
		{[]int{2, 2}, []string{"abc", "xy", "", "12"}},
		{[]int{0, 3, 1, 2}, []string{"abc", "xyz", "", "1234"}},
		{[]int{0, 0, 0, 1}, []string{"abc", "", "", "123"}},
		{[]int{0, 0, 2, 0}, []string{"abc", "", "", "12"}},
		{[]int{9, 9, 9, 9, 9, 9}, []string{"abc", "xyz", "", "12345"}},
		{[]int{9, -1, 9, 3}, []string{"abc", "", "", "12345"}},
		{[]int{-1, 4, -9, -3}, []string{"abc", "xyz", "", "12"}},
		{[]int{math.MaxInt, math.MaxInt, math.MaxInt, math.MaxInt}, []string{"abc", "xyz", "", "12345"}},
		{[]int{math.MinInt, math.MinInt, math.MinInt, math.MinInt}, []string{"abc", "", "", "12"}},
	} {
		d, m := begun(t)
		given := slices.Clone(c.picks)
		names, texts := d.Crash(c.picks)
		if !slices.Equal(names, []string{"full", "new", "none", "part"}) || !slices.Equal(texts, c.want) {
			t.Errorf("Crash(%v): %q, %q, want %q", c.picks, names, texts, c.want)
		}
		if !slices.Equal(c.picks, given) {
			t.Errorf("picks are changed: %v, were %v", c.picks, given)
		}
		again, _ := begun(t)
		checkCrash(t, again, m, c.picks)
	}
	d, _ := made(t, nil, nil)
	if names, texts := d.Crash([]int{1, 2}); len(names) != 0 || len(texts) != 0 {
		t.Errorf("of none: %q, %q", names, texts)
	}
}

// P9.4: told once more, by other picks; the disk is off all the time.
func TestCrashAgain(t *testing.T) {
	d, m := begun(t)
	for _, picks := range [][]int{nil, {0, 9, 0, 9}, {0, 1}, nil} {
		checkCrash(t, d, m, picks)
		if _, e := d.Size("full"); e != api.ErrPower {
			t.Errorf("%v", e)
		}
	}
}

// some says one of few calls.
func some(r *rand.Rand) op {
	names := []string{"a", "a", "b", "b", "c", "d", "", "a b"}
	o := op{strings.Fields(kinds + " Append Sync Append Cut Rename")[r.Intn(10)], names[r.Intn(len(names))], names[r.Intn(len(names))], r.Intn(14) - 1}
	if o.kind == "Append" {
		o.text = "0123456789"[r.Intn(10):]
	}
	if r.Intn(40) == 0 {
		o = op{kind: "Off", n: r.Intn(30) - 1}
	}
	return o
}

// P9.1 to P9.5: runs of calls, a crash behind each beginning, and what was kept as another disk's beginning.
func TestRuns(t *testing.T) {
	r := rand.New(rand.NewSource(19))
	got := map[api.Errno]int{}
	for range 300 {
		var l []op
		for range r.Intn(30) {
			l = append(l, some(r))
		}
		checkOps(t, []string{"b", "c"}, []string{"beg", ""}, l, r.Intn(9)-1, r.Intn(9), r.Intn(9)-1, r.Intn(9))
	}
	d, m := made(t, nil, nil)
	for range 20000 {
		o := some(r)
		got[m.do(o)]++
		run(d, o)
		checkFiles(t, d, m, o.name)
		if m.dark {
			picks := []int{r.Intn(9), r.Intn(9), r.Intn(9)}
			names, texts := m.crash(picks)
			checkCrash(t, d, m, picks)
			d, m = made(t, names, texts)
		}
	}
	for _, e := range []api.Errno{api.OK, api.ErrForm, api.ErrNone, api.ErrState, api.ErrPower} {
		if got[e] < 100 {
			t.Errorf("%v was told %d times", e, got[e])
		}
	}
}

// P9.5: what is safe is in every crash, and what is kept is a beginning of what there was.
func TestSafeStays(t *testing.T) {
	r := rand.New(rand.NewSource(95))
	for range 300 {
		d, _ := made(t, nil, nil)
		safe, all := map[string]string{}, map[string]string{}
		for range 40 {
			name := []string{"a", "b", "c"}[r.Intn(3)]
			s := strings.Repeat(string(rune('a'+r.Intn(26))), r.Intn(50))
			if e := d.Append(name, s); e != api.OK {
				t.Fatalf("Append: %v", e)
			}
			all[name] += s
			if r.Intn(3) == 0 {
				if e := d.Sync(name); e != api.OK {
					t.Fatalf("Sync: %v", e)
				}
				safe[name] = all[name]
			}
		}
		names, texts := d.Crash([]int{r.Intn(60) - 9, r.Intn(60) - 9, r.Intn(60) - 9})
		if len(names) != len(all) || len(texts) != len(all) {
			t.Fatalf("%q of %d", names, len(all))
		}
		for i, name := range names {
			if !strings.HasPrefix(texts[i], safe[name]) || !strings.HasPrefix(all[name], texts[i]) {
				t.Errorf("%s: %q is safe, %q is kept, of %q", name, safe[name], texts[i], all[name])
			}
		}
	}
}

// The chapter's example.
func TestExample(t *testing.T) {
	d, _ := made(t, nil, nil)
	for _, o := range []op{{"Append", "f", "first", 0}, {"Sync", "f", "", 0}, {"Append", "f", "second", 0}} {
		if e := run(d, o); e != api.OK {
			t.Fatalf("%v: %v", o, e)
		}
	}
	if names, texts := d.Crash(nil); !slices.Equal(names, []string{"f"}) || !slices.Equal(texts, []string{"first"}) {
		t.Errorf("%q, %q", names, texts)
	}
}

// scribble writes over texts that were told or handed in, and behind them as far as there is room.
func scribble(l []string) {
	l = l[:cap(l)]
	for i := range l {
		l[i] = "\x00scribbled"
	}
}

// R2: lists that are handed in are not kept, and what is told is one's own; disks have nothing in common.
func TestNothingShared(t *testing.T) {
	names, texts := []string{"b", "a"}, []string{"2", "1"}
	d, _ := made(t, names, texts)
	other, _ := made(t, names, texts)
	if !slices.Equal(names, []string{"b", "a"}) || !slices.Equal(texts, []string{"2", "1"}) {
		t.Errorf("New changed %q, %q", names, texts)
	}
	scribble(names)
	scribble(texts)
	told, _ := d.Names()
	scribble(told)
	read, _ := d.Read("a")
	for _, o := range []op{{"Cut", "a", "", 0}, {"Append", "a", "x", 0}, {"Append", "a", "y", 0}, {"Del", "b", "", 0}} {
		if e := run(d, o); e != api.OK {
			t.Fatalf("%v: %v", o, e)
		}
	}
	if read != "1" {
		t.Errorf("what was read is changed: %q", read)
	}
	if l, e := d.Names(); !slices.Equal(l, []string{"a"}) || e != api.OK {
		t.Errorf("%q, %v", l, e)
	}
	for range 2 {
		n, s := d.Crash([]int{9})
		if !slices.Equal(n, []string{"a"}) || !slices.Equal(s, []string{"xy"}) {
			t.Errorf("%q, %q", n, s)
		}
		scribble(n)
		scribble(s)
	}
	if l, e := other.Names(); !slices.Equal(l, []string{"a", "b"}) || e != api.OK {
		t.Errorf("the other one: %q, %v", l, e)
	}
	if s, e := other.Read("a"); s != "1" || e != api.OK {
		t.Errorf("the other one: %q, %v", s, e)
	}
}

// read says calls by lines: of each its kind by a letter, its number by another one, and its names, or its name and text, with a tab between them.
func read(s string) []op {
	var l []op
	for line := range strings.SplitSeq(s, "\n") {
		if len(line) < 2 || len(l) == 40 {
			continue
		}
		o := op{kind: strings.Fields(kinds + " Off")[int(line[0])%6], n: int(line[1]) - '0'}
		o.name, o.text, _ = strings.Cut(line[2:], "\t")
		l = append(l, o)
	}
	return l
}

// P9.1 to P9.5, of any names and calls.
func FuzzDisk(f *testing.F) {
	f.Add("a b", "1 2", "B0a\tx\nC0a\nD1b\nE0a\tc\nF0c\nA3", "\x01\x02")
	f.Add("a a", "1 2", "", "")
	f.Add("é", "1", "B0\xff\tx", "\xff")
	f.Fuzz(func(t *testing.T, names, texts, calls, picks string) {
		n, s := strings.Split(names, " "), strings.Split(texts, " ")
		var p []int
		for i := range len(picks) {
			p = append(p, int(int8(picks[i])))
		}
		m := wantNew(n, s)
		checkNew(t, n, s, m != nil)
		if m == nil {
			n, s = nil, nil
		}
		checkOps(t, n, s, read(calls), p...)
	})
}
