package volume

import (
	"slices"

	"cantle/api"
	"cantle/pm"
)

// medium is a device whose words are read and written many at once. The device stands within, so that its steps are the medium's own.
type medium struct {
	*pm.Device
}

// store is a word, and what it is to hold.
type store struct {
	word  int
	value uint64
}

// read is so many words from one on, as they are seen.
func (m medium) read(first, count int) []uint64 {
	l := make([]uint64, count)
	for k := range l {
		l[k] = m.Load(first + k)
	}
	return l
}

// write stores words, and then flushes their lines: rising, if the stores are. Where the device goes down it ends.
func (m medium) write(l []store) api.Errno {
	for _, s := range l {
		if !m.Store(s.word, s.value) {
			return api.ErrDown
		}
	}
	for _, line := range linesOf(l) {
		if !m.Flush(line) {
			return api.ErrDown
		}
	}
	return api.OK
}

// change writes those words from one on that aren't so already: how many.
func (m medium) change(first int, words []uint64) (int, api.Errno) {
	unlike := slices.DeleteFunc(storesOf(first, words), func(s store) bool { return m.Load(s.word) == s.value })
	if e := m.write(unlike); e != api.OK {
		return 0, e
	}
	return len(unlike), api.OK
}

// storesOf are the stores that make the words from one on these.
func storesOf(first int, words []uint64) []store {
	l := make([]store, len(words))
	for k, x := range words {
		l[k] = store{word: first + k, value: x}
	}
	return l
}

// linesOf are the lines of rising stores, each once.
func linesOf(l []store) []int {
	var lines []int
	for _, s := range l {
		lines = append(lines, s.word/api.Line)
	}
	return slices.Compact(lines)
}
