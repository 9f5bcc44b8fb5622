package chain

import (
	"math"
	"math/rand/v2"
	"slices"
	"testing"

	"cantle/api"
	"cantle/geometry"
	"cantle/pm"
	"cantle/run"
	"cantle/slot"
	"cantle/super"
	"cantle/volume"
)

// chance is a source of many numbers, always the same ones.
func chance(seed uint64) *rand.Rand { return rand.New(rand.NewPCG(seed, 16)) }

// of is a geometry of so many blocks, and so of so many slots.
func of(blocks int) geometry.Geometry { return geometry.Geometry{Blocks: blocks, Inodes: 3, Size: 64} }

// slotsAt is where the slots stand in each: behind the superblock, the record, and three inodes.
const slotsAt = 40

// greatest is as many blocks as there may be.
const greatest = 65534

// sizes are numbers of blocks: slots of a part of a line, of just a line, of more, and of as many as there may be.
func sizes() []int { return []int{1, 2, 3, 7, 8, 9, 64, 65, 200, greatest} }

// few are those of them that each word of a device can be asked for, many times.
func few() []int { return []int{1, 2, 3, 7, 8, 9, 20} }

// noneOf are numbers that are none of so many slots, nor -1: near to them, as far as an int may be, and such that would be one by their low bits.
func noneOf(count int) []int {
	return []int{
		-2, -3, -8, -1 - count, -65534, -65535, -65536, count, count + 1, 2 * count, 65534, 65535, 65536, 65534 + count, 1 << 20, math.MaxInt, math.MaxInt - 1,
		math.MinInt, math.MinInt + 1, math.MaxInt32, math.MinInt32, 1 << 32, 1<<32 + count - 1, -1 << 32, 1<<32 - 1, 1 << 48, 1 << 62, -1 << 62,
	}
}

// wordOf is a slot's word.
func wordOf(t *testing.T, start, count, next int) uint64 {
	t.Helper()
	x, e := slot.Encode(slot.Slot{Start: start, Count: count, Next: next})
	if e != api.OK {
		t.Fatalf("%d, %d, %d: %d", start, count, next, e)
	}
	return x
}

// blank is a device whose words behind the superblock are noughts, which is no slot's word.
func blank(t *testing.T, blocks int) *pm.Device {
	t.Helper()
	l, e := super.Encode(of(blocks))
	if e != api.OK {
		t.Fatal(blocks, e)
	}
	return pm.Of(append(l, make([]uint64, of(blocks).Words()-8)...))
}

// full is a device whose words behind the superblock are anything.
func full(t *testing.T, blocks int) *pm.Device {
	t.Helper()
	r := chance(1)
	l := blank(t, blocks).Words()
	for w := 8; w < len(l); w++ {
		l[w] = r.Uint64()
	}
	return pm.Of(l)
}

// with is a device whose slots' words are these, from slot 0 on, and all others behind the superblock are noughts.
func with(t *testing.T, blocks int, words ...uint64) *pm.Device {
	t.Helper()
	l := blank(t, blocks).Words()
	copy(l[slotsAt:slotsAt+blocks], words)
	return pm.Of(l)
}

// put is a device with other words for some slots.
func put(d *pm.Device, words map[int]uint64) *pm.Device {
	l := d.Words()
	for s, x := range words {
		l[slotsAt+s] = x
	}
	return pm.Of(l)
}

// opened is the volume of a device that has one.
func opened(t *testing.T, d *pm.Device) *volume.Volume {
	t.Helper()
	v, e := volume.Open(d)
	if e != api.OK || v == nil {
		t.Fatalf("Open of %d words: %v, %d", d.Len(), v, e)
	}
	return v
}

// chainOf is the chain of these slots and runs by its meaning.
func chainOf(slots []int, runs []run.Run) Chain {
	var c Chain
	for k, r := range runs {
		next := -1
		if k+1 < len(slots) {
			next = slots[k+1]
		}
		c.Slots = append(c.Slots, slots[k])
		c.Parts = append(c.Parts, slot.Slot{Start: r.Start, Count: r.Count, Next: next})
	}
	return c
}

// wordsOf are the words of a chain's slots by their numbers.
func wordsOf(t *testing.T, c Chain) map[int]uint64 {
	t.Helper()
	words := map[int]uint64{}
	for k, p := range c.Parts {
		words[c.Slots[k]] = wordOf(t, p.Start, p.Count, p.Next)
	}
	return words
}

// anyChain is slots and runs of a chain that may be, by chance: so many slots, each of them once.
func anyChain(r *rand.Rand, blocks, count int) ([]int, []run.Run) {
	slots := r.Perm(blocks)[:count]
	var runs []run.Run
	for range count {
		start := r.IntN(blocks)
		runs = append(runs, run.Run{Start: start, Count: 1 + r.IntN(blocks-start)})
	}
	return slots, runs
}

// same tells whether two chains are the same.
func same(a, b Chain) bool { return slices.Equal(a.Slots, b.Slots) && slices.Equal(a.Parts, b.Parts) }

// short is a chain as it is told in a fault: not all of a great one.
func short(c Chain) Chain {
	return Chain{c.Slots[:min(10, len(c.Slots))], c.Parts[:min(10, len(c.Parts))]}
}

// mustBeAlike fails, unless two devices are the same in all that can be told of them: also in what is flushed, which a fence tells.
func mustBeAlike(t *testing.T, got, want *pm.Device) {
	t.Helper()
	for w := range want.Len() {
		if got.Load(w) != want.Load(w) {
			t.Fatalf("word %d: %x, want %x", w, got.Load(w), want.Load(w))
		}
		if !slices.Equal(got.May(w), want.May(w)) {
			t.Fatalf("word %d may hold %x, want %x", w, got.May(w), want.May(w))
		}
	}
	if got.Steps() != want.Steps() || got.Stores() != want.Stores() || got.Down() != want.Down() {
		t.Fatalf("%d steps, %d stores, down %v, want %d, %d, %v", got.Steps(), got.Stores(), got.Down(), want.Steps(), want.Stores(), want.Down())
	}
	got, want = fenced(got), fenced(want)
	for w := range want.Len() {
		if got.Lasting(w) != want.Lasting(w) {
			t.Fatalf("behind a fence of word %d %x lasts, want %x", w, got.Lasting(w), want.Lasting(w))
		}
	}
}

// fenced is a device apart, behind one fence more.
func fenced(d *pm.Device) *pm.Device {
	d = d.Copy()
	d.Arm(1)
	d.Fence()
	return d
}
