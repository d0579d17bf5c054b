package disk

import (
	"maps"
	"slices"
	"strings"

	"fairway/api"
)

const maxName = 64 // bytes of a file's name

// file is bytes, of which a beginning is safe.
type file struct {
	text []byte
	safe int
}

// kept tells what a crash leaves of a file: what is safe, and pick bytes of the rest, as far as it has so many.
func (f *file) kept(pick int) string {
	rest := len(f.text) - f.safe
	return string(f.text[:f.safe+min(max(pick, 0), rest)])
}

// isName tells whether a file may be called so.
func isName(s string) bool {
	if len(s) < 1 || len(s) > maxName {
		return false
	}
	for _, r := range s {
		// A byte above 126 is part of a greater code point, or comes as U+FFFD, which is one too.
		if r < 33 || r > 126 {
			return false
		}
	}
	return true
}

// look tells what a name stands for: a file, or an error's kind, where there is none, or no power.
func (d *Disk) look(name string) any {
	if d.off {
		return api.ErrPower
	}
	if f, ok := d.files[name]; ok {
		return f
	}
	return api.ErrNone
}

// lay gives a file a name, in the place of one that has it.
func (d *Disk) lay(name string, f *file) {
	if d.files == nil {
		d.files = map[string]*file{}
	}
	d.files[strings.Clone(name)] = f
}

// sorted tells the names of all files, in order; none of them shares its bytes with what is kept.
func (d *Disk) sorted() []string {
	names := slices.Sorted(maps.Keys(d.files))
	for i, name := range names {
		names[i] = strings.Clone(name)
	}
	return names
}

// hasRoom tells whether n bytes more may stand in a file.
func (d *Disk) hasRoom(f *file, n int) bool {
	all := n
	for _, other := range d.files {
		all += len(other.text)
	}
	return len(f.text)+n <= api.MaxFile && all <= api.Room
}

// count is asked first by each call that counts: the power goes there, if it is that one's turn.
func (d *Disk) count() {
	if d.left == 0 {
		return
	}
	d.left--
	if d.left == 0 {
		d.off = true
	}
}
