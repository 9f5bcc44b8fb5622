package tree

import (
	"bytes"
	"maps"
	"slices"

	"cantle/path"
)

// thing is a file or a directory, an empty directory as its zero value. What its kind doesn't have is empty.
type thing struct {
	file  bool
	data  []byte
	names map[string]*thing
}

// put gives a directory one name more.
func (x *thing) put(name string, y *thing) {
	if x.names == nil {
		x.names = map[string]*thing{}
	}
	x.names[name] = y
}

// write lays bytes into a file.
func (x *thing) write(at int, b []byte) {
	if len(b) == 0 {
		return
	}
	x.grow(at + len(b))
	copy(x.data[at:], b)
}

// grow gives a file so many bytes at least.
func (x *thing) grow(size int) {
	if size > len(x.data) {
		// Noughts of their own, as the room behind may hold what was there once.
		x.data = append(x.data, make([]byte, size-len(x.data))...)
	}
}

// resize gives a file just so many bytes.
func (x *thing) resize(size int) {
	x.grow(size)
	x.data = x.data[:size]
	// Lest few bytes hold the room of many; not at each call, as a file that goes byte by byte would be copied each time.
	if size < cap(x.data)/2 {
		x.data = bytes.Clone(x.data)
	}
}

// read is a file's bytes from at on, at most so many.
func (x *thing) read(at, most int) []byte {
	rest := x.data[min(at, len(x.data)):]
	return bytes.Clone(rest[:min(most, len(rest))])
}

// list is a directory's names, rising.
func (x *thing) list() []string { return slices.Sorted(maps.Keys(x.names)) }

// items adds all that is in a directory, whose own path these names are, to a list.
func (x *thing) items(l []Item, own []string) []Item {
	for _, name := range x.list() {
		y := x.names[name]
		names := append(own, name)
		// There is such a path, as nothing is put where there is none.
		p, _ := path.Join(names...)
		l = append(l, Item{Path: p, Dir: !y.file, Data: bytes.Clone(y.data)})
		l = y.items(l, names)
	}
	return l
}

// count is how many things there are, this one too.
func (x *thing) count() int {
	count := 1
	for _, y := range x.names {
		count += y.count()
	}
	return count
}

// twin is the same, and shares nothing that changes.
func (x *thing) twin() *thing {
	twin := &thing{file: x.file, data: bytes.Clone(x.data)}
	for name, y := range x.names {
		twin.put(name, y.twin())
	}
	return twin
}

// same tells whether two have the same things.
func (x *thing) same(y *thing) bool {
	return x.file == y.file && bytes.Equal(x.data, y.data) && maps.EqualFunc(x.names, y.names, (*thing).same)
}
