package volume

import (
	"encoding/binary"
	"hash/crc32"
	"maps"
	"math"
	"math/rand/v2"
	"slices"
	"testing"

	"cantle/api"
	"cantle/geometry"
	"cantle/inode"
	"cantle/pm"
	"cantle/record"
	"cantle/slot"
)

// chance is a source of many numbers, always the same ones.
func chance(seed uint64) *rand.Rand { return rand.New(rand.NewPCG(seed, 15)) }

// parts are where the parts of a geometry stand, and how many words there are, by the order in which chapter 4 lays them.
type parts struct{ inodes, slots, bits, blocks, words int }

func partsOf(g geometry.Geometry) parts {
	p := parts{inodes: 16}
	p.slots = p.inodes + 8*g.Inodes
	p.bits = p.slots + (g.Blocks+7)/8*8
	p.blocks = p.bits + (bitWords(g)+7)/8*8
	p.words = p.blocks + g.Blocks*g.Size/8
	return p
}

// recordAt is where the record stands in each.
const recordAt = 8

// bitWords is how many words of the bitmap have bits.
func bitWords(g geometry.Geometry) int { return (g.Blocks + 63) / 64 }

// small are geometries with few words: some whose parts fill their lines, some whose don't, and bitmaps of a part of a word, of just a word, and of more than a line.
func small() []geometry.Geometry {
	return []geometry.Geometry{
		{Blocks: 1, Inodes: 1, Size: 64}, {Blocks: 3, Inodes: 2, Size: 64}, {Blocks: 8, Inodes: 3, Size: 128}, {Blocks: 64, Inodes: 5, Size: 64},
		{Blocks: 65, Inodes: 4, Size: 64}, {Blocks: 2, Inodes: 70, Size: 256}, {Blocks: 2, Inodes: 2, Size: 4096}, {Blocks: 520, Inodes: 3, Size: 64},
	}
}

// great are geometries with as many as there may be of each.
func great() []geometry.Geometry {
	return []geometry.Geometry{{Blocks: 65534, Inodes: 65534, Size: 64}, {Blocks: 65534, Inodes: 65534, Size: 256}, {Blocks: 7000, Inodes: 65534, Size: 4096}}
}

// some are three of so many: the first, one in the middle, and the last.
func some(count int) []int { return []int{0, count / 2, count - 1} }

// noneOf are numbers that are none of so many: near to them, as far as an int may be, and such that would be one by their low bits.
func noneOf(count int) []int {
	return []int{
		-1, -2, -count, -8, count, count + 1, 2 * count, 65534 + count, 1 << 20, math.MaxInt, math.MaxInt - 1, math.MinInt, math.MinInt + 1,
		math.MaxInt / 8, math.MaxInt/8 + 1, math.MinInt / 8, math.MinInt/8 - 1, 1 << 32, 1<<32 + count - 1, -1 << 32, 1 << 61, 1 << 60, -1 << 61, math.MaxInt32, math.MinInt32,
	}
}

// summed are words behind which, to a line, there are noughts, and then the sum that fits.
func summed(first ...uint64) []uint64 {
	l := make([]uint64, 7)
	copy(l, first)
	var b []byte
	for _, x := range l {
		b = binary.LittleEndian.AppendUint64(b, x)
	}
	return append(l, uint64(crc32.ChecksumIEEE(b)))
}

// superOf is a superblock by its meaning, whether or not the geometry may be.
func superOf(g geometry.Geometry) []uint64 {
	return summed(binary.LittleEndian.Uint64([]byte("CANTLE01")), uint64(g.Blocks)+uint64(g.Inodes)<<16+uint64(g.Size)<<32)
}

// inodeOf is an inode's line by its meaning.
func inodeOf(n inode.Inode) []uint64 {
	if n.Kind == inode.Free {
		return make([]uint64, 8)
	}
	return summed(uint64(n.Kind)+uint64(n.Head+1)<<16, uint64(n.Size))
}

// recordOf is a record's line by its meaning.
func recordOf(r record.Record) []uint64 {
	return summed(1+uint64(r.Slot)<<16+uint64(r.From)<<32+uint64(r.To)<<48, uint64(r.Count))
}

// slotOf is a slot's word, as chapter 7 makes it.
func slotOf(t *testing.T, x slot.Slot) uint64 {
	t.Helper()
	l, e := slot.Encode(x)
	if e != api.OK {
		t.Fatalf("%+v: %d", x, e)
	}
	return l
}

// blank is a device whose words behind the superblock are noughts.
func blank(g geometry.Geometry) *pm.Device {
	l := make([]uint64, partsOf(g).words)
	copy(l, superOf(g))
	return pm.Of(l)
}

// full is a device whose words behind the superblock are anything.
func full(g geometry.Geometry) *pm.Device {
	r := chance(1)
	l := make([]uint64, partsOf(g).words)
	for w := range l {
		l[w] = r.Uint64()
	}
	copy(l, superOf(g))
	return pm.Of(l)
}

// with is a device of a geometry with words in some places, and noughts in all others behind the superblock.
func with(g geometry.Geometry, first int, words ...uint64) *pm.Device {
	l := blank(g).Words()
	copy(l[first:], words)
	return pm.Of(l)
}

// opened is the volume of a device that has one.
func opened(t *testing.T, d *pm.Device) *Volume {
	t.Helper()
	v, e := Open(d)
	if e != api.OK || v == nil {
		t.Fatalf("Open of %d words: %v, %d", d.Len(), v, e)
	}
	return v
}

// step is one that a device does: the store of a word, or the flush of a line.
type step struct {
	store bool
	at    int
	value uint64
}

// stepsOf are the steps of a write by its meaning: the words, the least first, then their lines, the least first.
func stepsOf(words map[int]uint64) []step {
	var stores, flushes []step
	for _, w := range slices.Sorted(maps.Keys(words)) {
		stores = append(stores, step{store: true, at: w, value: words[w]})
		if f := (step{at: w / 8}); !slices.Contains(flushes, f) {
			flushes = append(flushes, f)
		}
	}
	return append(stores, flushes...)
}

// wordsFrom are words by their places, one behind the other.
func wordsFrom(first int, words ...uint64) map[int]uint64 {
	m := map[int]uint64{}
	for k, x := range words {
		m[first+k] = x
	}
	return m
}

// walk does steps, as far as the device does them.
func walk(d *pm.Device, l []step) {
	for _, s := range l {
		if s.store {
			d.Store(s.at, s.value)
		} else {
			d.Flush(s.at)
		}
	}
}

// mustBeAlike fails, unless two devices are the same in all that can be told of them: also in what is flushed, which a fence tells.
func mustBeAlike(t *testing.T, got, want *pm.Device) {
	t.Helper()
	if !got.Same(want) {
		for w := range want.Len() {
			if got.Load(w) != want.Load(w) {
				t.Fatalf("word %d: %x, want %x", w, got.Load(w), want.Load(w))
			}
		}
		t.Fatalf("%d words, want %d", got.Len(), want.Len())
	}
	if got.Steps() != want.Steps() || got.Stores() != want.Stores() || got.Down() != want.Down() {
		t.Fatalf("%d steps, %d stores, down %v, want %d, %d, %v", got.Steps(), got.Stores(), got.Down(), want.Steps(), want.Stores(), want.Down())
	}
	for w := range want.Len() {
		if !slices.Equal(got.May(w), want.May(w)) {
			t.Fatalf("word %d may hold %x, want %x", w, got.May(w), want.May(w))
		}
	}
	got, want = fenced(got), fenced(want)
	for w := range want.Len() {
		if got.Lasting(w) != want.Lasting(w) {
			t.Fatalf("behind a fence of word %d %x lasts, want %x", w, got.Lasting(w), want.Lasting(w))
		}
	}
}

// fenced is a device apart, behind one fence more.
func fenced(d *pm.Device) *pm.Device {
	d = d.Copy()
	d.Arm(1)
	d.Fence()
	return d
}

// mustWrite fails, unless a call writes just these words, and answers their number, if it tells one; and unless it ends, on a device that goes down at any of its steps, there.
func mustWrite(t *testing.T, d *pm.Device, words map[int]uint64, want int, call func(v *Volume) (int, api.Errno)) {
	t.Helper()
	steps := stepsOf(words)
	try := func(got, also *pm.Device, want int, wantE api.Errno) {
		t.Helper()
		n, e := call(opened(t, got))
		walk(also, steps)
		if n != want || e != wantE {
			t.Fatalf("%d, %d, want %d, %d", n, e, want, wantE)
		}
		mustBeAlike(t, got, also)
	}
	try(d.Copy(), d.Copy(), want, api.OK)
	for fuse := range len(steps) + 2 {
		got, also := d.Copy(), d.Copy()
		got.Arm(fuse)
		also.Arm(fuse)
		if fuse < len(steps) {
			try(got, also, 0, api.ErrDown)
		} else {
			try(got, also, want, api.OK)
		}
	}
}

// mustRefuse fails, unless a call answers an error, and nothing happens: the device being down doesn't matter.
func mustRefuse(t *testing.T, d *pm.Device, want api.Errno, call func(v *Volume) (int, api.Errno)) {
	t.Helper()
	down := d.Copy()
	down.Arm(0)
	for _, before := range []*pm.Device{d, down} {
		got := before.Copy()
		if n, e := call(opened(t, got)); n != 0 || e != want {
			t.Fatalf("%d, %d, want 0, %d", n, e, want)
		}
		mustBeAlike(t, got, before)
	}
}

// untold is a call that tells no number.
func untold(call func(v *Volume) api.Errno) func(v *Volume) (int, api.Errno) {
	return func(v *Volume) (int, api.Errno) { return 0, call(v) }
}
