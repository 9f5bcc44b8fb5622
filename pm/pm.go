// Package pm: words that last, and words that may not (chapter 1).
package pm

import (
	"maps"
	"slices"

	"cantle/api"
)

// Device is words.
type Device struct {
	counter
	words   []uint64        // as they are seen
	pending map[int]history // of those words alone that have a store which doesn't last yet
	marked  []int           // the words that the next fence is about, lest it goes over all that is pending
}

// history is what a pending word may hold.
type history struct {
	values []uint64 // the lasting one, then those of the stores behind it
	mark   int      // the place of the one that the next fence makes lasting; 0: the line wasn't flushed
}

// New: noughts.
func New(words int) *Device {
	return own(make([]uint64, min(max(words, 0), api.MaxWords)))
}

// Of: of words.
func Of(l []uint64) *Device {
	return own(slices.Clone(l[:min(len(l), api.MaxWords)]))
}

// own makes a device that keeps the words it is given.
func own(words []uint64) *Device {
	return &Device{words: words, pending: map[int]history{}}
}

// Len: how many words.
func (d *Device) Len() int { return len(d.words) }

// Load: a word.
func (d *Device) Load(w int) uint64 {
	if !d.has(w) {
		return 0
	}
	return d.words[w]
}

// Lasting: its lasting value.
func (d *Device) Lasting(w int) uint64 {
	if h, ok := d.pending[w]; ok {
		return h.values[0]
	}
	return d.Load(w)
}

// May: what a word may hold.
func (d *Device) May(w int) []uint64 {
	if !d.has(w) {
		return nil
	}
	if h, ok := d.pending[w]; ok {
		return slices.Clone(h.values)
	}
	return []uint64{d.words[w]}
}

// Store: a word.
func (d *Device) Store(w int, x uint64) bool {
	if !d.has(w) || !d.step() {
		return false
	}
	d.stores++
	h, ok := d.pending[w]
	if ok {
		h.values = append(h.values, x)
	} else {
		h.values = []uint64{d.words[w], x}
	}
	d.pending[w] = h
	d.words[w] = x
	return true
}

// Flush: a line.
func (d *Device) Flush(line int) bool {
	// Lines are counted rather than words, as line times Line may wrap round.
	if line < 0 || line >= (len(d.words)+api.Line-1)/api.Line || !d.step() {
		return false
	}
	first := line * api.Line
	for w := first; w < min(first+api.Line, len(d.words)); w++ {
		d.mark(w)
	}
	return true
}

// Fence: what was flushed lasts.
func (d *Device) Fence() bool {
	if !d.step() {
		return false
	}
	for _, w := range d.marked {
		d.settle(w)
	}
	d.marked = d.marked[:0]
	return true
}

// Crash: by choices.
func (d *Device) Crash(choices ...byte) int {
	open := slices.Sorted(maps.Keys(d.pending))
	for k, w := range open {
		choice := 0
		if k < len(choices) {
			choice = int(choices[k])
		}
		values := d.pending[w].values
		d.words[w] = values[choice%len(values)]
	}
	clear(d.pending)
	d.marked = d.marked[:0]
	d.disarm()
	return len(open)
}

// Words: as they are seen.
func (d *Device) Words() []uint64 { return slices.Clone(d.words) }

// Copy: apart.
func (d *Device) Copy() *Device {
	c := own(slices.Clone(d.words))
	c.counter = d.counter
	c.marked = slices.Clone(d.marked)
	for w, h := range d.pending {
		// Both will append to their own values: they must not share room.
		h.values = slices.Clone(h.values)
		c.pending[w] = h
	}
	return c
}

// Same: the same words?
func (d *Device) Same(e *Device) bool {
	if d == nil || e == nil {
		return d == nil && e == nil
	}
	return slices.Equal(d.words, e.words)
}

// has tells whether there is such a word.
func (d *Device) has(w int) bool { return w >= 0 && w < len(d.words) }

// mark notes a word's newest value as the one that the next fence makes lasting.
func (d *Device) mark(w int) {
	h, ok := d.pending[w]
	if !ok {
		return
	}
	if h.mark == 0 {
		d.marked = append(d.marked, w)
	}
	h.mark = len(h.values) - 1
	d.pending[w] = h
}

// settle makes a word's marked value its lasting one.
func (d *Device) settle(w int) {
	h := d.pending[w]
	h.values = h.values[h.mark:]
	if len(h.values) == 1 {
		delete(d.pending, w)
		return
	}
	h.mark = 0
	d.pending[w] = h
}
