package disk

import (
	"fmt"
	"maps"
	"slices"
	"testing"

	"fairway/api"
)

// The model of chapter 9 keeps of each byte whether it is safe, and counts calls up from the last Off on.

type cell struct {
	b    byte
	safe bool
}

type model struct {
	files map[string][]cell
	armed bool
	goes  int // the call that counts ahead of which the power goes
	calls int // that counted, from Off on
	dark  bool
}

// cells says bytes, safe or not.
func cells(s string, safe bool) []cell {
	var l []cell
	for i := range len(s) {
		l = append(l, cell{s[i], safe})
	}
	return l
}

func bytesOf(l []cell) string {
	var s []byte
	for _, c := range l {
		s = append(s, c.b)
	}
	return string(s)
}

func wantName(s string) bool {
	ok := s != "" && len(s) <= 64
	for i := range len(s) {
		ok = ok && s[i] > ' ' && s[i] <= '~'
	}
	return ok
}

// mayBe says whether files may be on a disk together.
func mayBe(files map[string][]cell) bool {
	all := 0
	for name, l := range files {
		if !wantName(name) || len(l) > 65536 {
			return false
		}
		all += len(l)
	}
	return len(files) <= 64 && all <= 1048576
}

// wantNew says the model of New, nil where there is no disk.
func wantNew(names, texts []string) *model {
	m := &model{files: map[string][]cell{}}
	if len(names) != len(texts) {
		return nil
	}
	for i, name := range names {
		m.files[name] = cells(texts[i], true)
	}
	if len(m.files) != len(names) || !mayBe(m.files) {
		return nil
	}
	return m
}

func (m *model) names() []string {
	return slices.Sorted(maps.Keys(m.files))
}

// op is one call of a disk's.
type op struct {
	kind string
	name string
	text string // of Append; Rename's other name
	n    int    // of Cut and Off
}

// String says a call for a test's message, its texts cut short.
func (o op) String() string {
	return fmt.Sprintf("%s(%.70q, %.70q of %d bytes, %d)", o.kind, o.name, o.text, len(o.text), o.n)
}

// powered says whether there is power for a call.
func (m *model) powered(kind string) bool {
	if slices.Contains([]string{"Append", "Sync", "Cut", "Rename", "Del"}, kind) {
		m.calls++
	}
	if m.armed && m.calls >= m.goes {
		m.dark = true
	}
	return !m.dark
}

// do says what a call that is no question answers, and does it.
func (m *model) do(o op) api.Errno {
	if o.kind == "Off" {
		m.armed, m.goes, m.calls = true, o.n, 0
		m.powered(o.kind)
		return api.OK
	}
	if !m.powered(o.kind) {
		return api.ErrPower
	}
	if o.kind == "Append" {
		return m.append(o.name, o.text)
	}
	l, ok := m.files[o.name]
	if !ok {
		return api.ErrNone
	}
	switch o.kind {
	case "Sync":
		m.files[o.name] = cells(bytesOf(l), true)
	case "Cut":
		if o.n < 0 || o.n > len(l) {
			return api.ErrForm
		}
		m.files[o.name] = slices.Clone(l[:o.n])
	case "Rename":
		if !wantName(o.text) {
			return api.ErrForm
		}
		if slices.ContainsFunc(l, func(c cell) bool { return !c.safe }) {
			return api.ErrState
		}
		delete(m.files, o.name)
		m.files[o.text] = l
	case "Del":
		delete(m.files, o.name)
	}
	return api.OK
}

func (m *model) append(name, s string) api.Errno {
	if !wantName(name) {
		return api.ErrForm
	}
	files := maps.Clone(m.files)
	files[name] = append(slices.Clone(files[name]), cells(s, false)...)
	if !mayBe(files) {
		return api.ErrFull
	}
	m.files = files
	return api.OK
}

// crash says what Crash tells.
func (m *model) crash(picks []int) (names []string, texts []string) {
	m.dark = true
	for i, name := range m.names() {
		kept := 0
		for at, c := range m.files[name] {
			if c.safe {
				kept = at + 1
			}
		}
		for more := 0; i < len(picks) && more < picks[i] && kept < len(m.files[name]); more++ {
			kept++
		}
		names = append(names, name)
		texts = append(texts, bytesOf(m.files[name][:kept]))
	}
	return names, texts
}

// run does a call on a disk.
func run(d *Disk, o op) api.Errno {
	switch o.kind {
	case "Append":
		return d.Append(o.name, o.text)
	case "Sync":
		return d.Sync(o.name)
	case "Cut":
		return d.Cut(o.name, o.n)
	case "Rename":
		return d.Rename(o.name, o.text)
	case "Del":
		return d.Del(o.name)
	case "Off":
		d.Off(o.n)
	}
	return api.OK
}

// checkOp holds what a call answers on a disk and on its model.
func checkOp(t *testing.T, d *Disk, m *model, o op) {
	t.Helper()
	if e, want := run(d, o), m.do(o); e != want {
		t.Fatalf("%v: %v, want %v", o, e, want)
	}
}

// checkFiles holds what Names, Size and Read tell of a disk against its model, also of names that are none of its files.
func checkFiles(t *testing.T, d *Disk, m *model, others ...string) {
	t.Helper()
	names, e := d.Names()
	if !m.powered("Names") {
		if names != nil || e != api.ErrPower {
			t.Fatalf("Names without power: %.300q, %v", names, e)
		}
	} else if !slices.Equal(names, m.names()) || e != api.OK {
		t.Fatalf("Names: %.300q, %v, want %.300q", names, e, m.names())
	}
	for _, name := range append(m.names(), others...) {
		l, ok := m.files[name]
		want, wantE := bytesOf(l), api.OK
		switch {
		case m.dark:
			want, wantE = "", api.ErrPower
		case !ok:
			wantE = api.ErrNone
		}
		if n, e := d.Size(name); n != len(want) || e != wantE {
			t.Fatalf("Size(%.80q): %d, %v, want %d, %v", name, n, e, len(want), wantE)
		}
		if s, e := d.Read(name); s != want || e != wantE {
			t.Fatalf("Read(%.80q): %.80q, %v, want %.80q, %v", name, s, e, want, wantE)
		}
	}
}

// checkCrash holds what Crash tells against the model, that the disk is off then, and that what was kept is a disk, all of it safe.
func checkCrash(t *testing.T, d *Disk, m *model, picks []int) {
	t.Helper()
	names, texts := d.Crash(picks)
	wantNames, wantTexts := m.crash(picks)
	if !slices.Equal(names, wantNames) || !slices.Equal(texts, wantTexts) {
		t.Fatalf("Crash(%v): %.300q, %.300q, want %.300q, %.300q", picks, names, texts, wantNames, wantTexts)
	}
	checkFiles(t, d, m, "a", "")
	again, e := New(names, texts)
	if e != api.OK {
		t.Fatalf("New of what was kept: %v", e)
	}
	checkFiles(t, again, wantNew(names, texts), "a", "")
	if n, s := again.Crash(nil); !slices.Equal(n, names) || !slices.Equal(s, texts) {
		t.Fatalf("not all of what was kept is safe: %.300q, %.300q, was %.300q, %.300q", n, s, names, texts)
	}
}

// checkOps holds a run of calls, and a crash behind each beginning of it.
func checkOps(t *testing.T, names, texts []string, l []op, picks ...int) {
	t.Helper()
	for k := range len(l) + 1 {
		d, e := New(names, texts)
		m := wantNew(names, texts)
		if e != api.OK || m == nil {
			t.Fatalf("New: %v", e)
		}
		for _, o := range l[:k] {
			checkOp(t, d, m, o)
			checkFiles(t, d, m, o.name, o.text)
		}
		checkCrash(t, d, m, picks)
	}
}
