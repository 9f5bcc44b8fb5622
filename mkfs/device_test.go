package mkfs

import (
	"encoding/binary"
	"hash/crc32"
	"math"
	"math/rand/v2"
	"slices"
	"testing"

	"cantle/api"
	"cantle/check"
	"cantle/geometry"
	"cantle/pm"
	"cantle/tree"
)

// sizes are all those that a block may have.
var sizes = []int{64, 128, 256, 512, 1024, 2048, 4096}

// chance is a source of many numbers, always the same ones.
func chance(seed uint64) *rand.Rand { return rand.New(rand.NewPCG(seed, 21)) }

// least is the least geometry, small one of few words whose slots fill their lines in part, wide one whose bitmap has two lines.
func least() geometry.Geometry { return geometry.Geometry{Blocks: 1, Inodes: 1, Size: 64} }

func small() geometry.Geometry { return geometry.Geometry{Blocks: 10, Inodes: 3, Size: 64} }

func wide() geometry.Geometry { return geometry.Geometry{Blocks: 513, Inodes: 2, Size: 64} }

// unsummed is a geometry whose superblock's sum is 0, so that it has a word less that isn't.
func unsummed() geometry.Geometry {
	return geometry.Geometry{Blocks: 6541, Inodes: 1347, Size: 256}
}

// rootAt is the first word of inode 0; slotsAt, bitmapAt, blocksAt and wordsOf tell where the further parts begin, and where the last one ends, by their meaning.
const rootAt = 16

func slotsAt(g geometry.Geometry) int { return rootAt + 8*g.Inodes }

func bitmapAt(g geometry.Geometry) int { return slotsAt(g) + (g.Blocks+7)/8*8 }

func blocksAt(g geometry.Geometry) int { return bitmapAt(g) + (g.Blocks+511)/512*8 }

func wordsOf(g geometry.Geometry) int { return blocksAt(g) + g.Blocks*(g.Size/8) }

// summed are some words, and in place of the last one the sum that fits.
func summed(l ...uint64) []uint64 {
	var b []byte
	for _, x := range l[:len(l)-1] {
		b = binary.LittleEndian.AppendUint64(b, x)
	}
	l[len(l)-1] = uint64(crc32.ChecksumIEEE(b))
	return l
}

// headOf is a geometry's superblock.
func headOf(g geometry.Geometry) []uint64 {
	return summed(0x3130454c544e4143, uint64(g.Blocks)+uint64(g.Inodes)<<16+uint64(g.Size)<<32, 0, 0, 0, 0, 0, 0)
}

// emptyOf are the words of an empty image, laid by hand: kind 2, no slot, no bytes.
func emptyOf(g geometry.Geometry) []uint64 {
	l := make([]uint64, wordsOf(g))
	copy(l, headOf(g))
	copy(l[rootAt:], summed(2, 0, 0, 0, 0, 0, 0, 0))
	return l
}

// ordinary are geometries that may be, of few words and of many: of every size, of slots and of bits that fill their lines just so, by one less and by one more, and with each number at its ends.
func ordinary() []geometry.Geometry {
	l := []geometry.Geometry{least(), small(), wide(), unsummed(), {Blocks: 5, Inodes: 2, Size: 128}, {Blocks: 65534, Inodes: 1, Size: 64}, {Blocks: 1, Inodes: 65534, Size: 64}, {Blocks: 65534, Inodes: 65534, Size: 256}}
	for k, blocks := range []int{7, 8, 9, 63, 64, 65, 511, 512, 513, 1024, 1025} {
		for i, size := range sizes {
			l = append(l, geometry.Geometry{Blocks: blocks, Inodes: 1 + (k+i)*5%9, Size: size})
		}
	}
	return l
}

// mayNot are geometries that may not be: of a number that is too little or too great, of a size that there isn't, or of too many words.
func mayNot() []geometry.Geometry {
	l := []geometry.Geometry{{}, {Blocks: 65534, Inodes: 65534, Size: 512}, {Blocks: 65534, Inodes: 1, Size: 4096}, {Blocks: 8192, Inodes: 1, Size: 4096}}
	for _, n := range []int{0, -1, -10, 65535, 65536, 65536 + 10, 1 << 32, 1<<32 + 10, 1 << 61, math.MaxInt, math.MinInt} {
		l = append(l, geometry.Geometry{Blocks: n, Inodes: 3, Size: 64}, geometry.Geometry{Blocks: 10, Inodes: n, Size: 64}, geometry.Geometry{Blocks: 10, Inodes: 3, Size: n})
	}
	for _, size := range []int{1, 8, 32, 63, 65, 96, 100, 192, 4095, 4097, 8192, -64, 1<<32 + 64} {
		l = append(l, geometry.Geometry{Blocks: 10, Inodes: 3, Size: size})
	}
	return l
}

// mustBeEmpty fails, unless a device is an empty image of a geometry: of just these words, whose tree has the root alone.
func mustBeEmpty(t *testing.T, d *pm.Device, g geometry.Geometry) {
	t.Helper()
	if !slices.Equal(d.Words(), emptyOf(g)) {
		t.Fatalf("%+v: other words", g)
	}
	if x, e := check.Check(d); e != api.OK || !x.Same(tree.New()) || x.Count() != 1 {
		t.Fatalf("%+v: no image of a root alone: %d, %s", g, e, check.Name(check.Judge(d)))
	}
}

// mustLast fails, unless each word of a device may hold one value alone.
func mustLast(t *testing.T, d *pm.Device) {
	t.Helper()
	for w := range d.Len() {
		if l := d.May(w); len(l) != 1 || l[0] != d.Load(w) || d.Lasting(w) != l[0] {
			t.Fatalf("word %d may hold %x", w, l)
		}
	}
}

// step is one that a device does: the store of a word, the flush of a line, or a fence.
type step struct {
	what  string
	at    int
	value uint64
}

// stepsOf are the steps by which what is seen of a device becomes an empty image: its superblock's words 0, a fence, all others what they are in it, a fence, its superblock's words, a fence; each line flushed behind the last word that was stored in it.
func stepsOf(g geometry.Geometry, d *pm.Device) []step {
	var l []step
	now, want := d.Words(), emptyOf(g)
	lay := func(first, end int, value func(w int) uint64) {
		open := false
		for w := first; w < end; w++ {
			if now[w] != value(w) {
				now[w], open = value(w), true
				l = append(l, step{"store", w, value(w)})
			}
			if w%8 == 7 && open {
				l, open = append(l, step{what: "flush", at: w / 8}), false
			}
		}
		l = append(l, step{what: "fence"})
	}
	lay(0, 8, func(int) uint64 { return 0 })
	lay(8, len(want), func(w int) uint64 { return want[w] })
	lay(0, 8, func(w int) uint64 { return want[w] })
	return l
}

// walk does steps, as far as the device does them.
func walk(d *pm.Device, l []step) {
	for _, s := range l {
		switch s.what {
		case "store":
			d.Store(s.at, s.value)
		case "flush":
			d.Flush(s.at)
		case "fence":
			d.Fence()
		}
	}
}

// mustBeAlike fails, unless two devices are the same in all that can be told of them: also in what is flushed, and in what a fuse lets through, which a fence tells.
func mustBeAlike(t *testing.T, got, want *pm.Device) {
	t.Helper()
	mustLookAlike(t, got, want)
	got, want = got.Copy(), want.Copy()
	got.Fence()
	want.Fence()
	mustLookAlike(t, got, want)
}

// mustLookAlike holds what can be told without a step.
func mustLookAlike(t *testing.T, got, want *pm.Device) {
	t.Helper()
	if got.Steps() != want.Steps() || got.Stores() != want.Stores() || got.Down() != want.Down() || got.Len() != want.Len() {
		t.Fatalf("%d steps, %d stores, down %v, %d words, want %d, %d, %v, %d", got.Steps(), got.Stores(), got.Down(), got.Len(), want.Steps(), want.Stores(), want.Down(), want.Len())
	}
	for w := range want.Len() {
		if got.Load(w) != want.Load(w) || !slices.Equal(got.May(w), want.May(w)) {
			t.Fatalf("word %d: %x of %x, want %x of %x", w, got.Load(w), got.May(w), want.Load(w), want.May(w))
		}
	}
}

// armed is a copy of a device, with a fuse, unless that is below 0.
func armed(d *pm.Device, fuse int) *pm.Device {
	d = d.Copy()
	if fuse >= 0 {
		d.Arm(fuse)
	}
	return d
}

// mustFormat fails, unless a device becomes an empty image by just the steps that it should, without a fuse and with each of these.
func mustFormat(t *testing.T, d *pm.Device, g geometry.Geometry, fuses ...int) {
	t.Helper()
	all := stepsOf(g, d)
	for _, fuse := range append(fuses, -1, len(all)) {
		got, also := armed(d, fuse), armed(d, fuse)
		e := Format(got, g)
		walk(also, all)
		if 0 <= fuse && fuse < len(all) {
			if e != api.ErrDown || !got.Down() {
				t.Fatalf("fuse %d of %d: %d, down %v", fuse, len(all), e, got.Down())
			}
		} else {
			if e != api.OK {
				t.Fatalf("fuse %d of %d: %d", fuse, len(all), e)
			}
			mustBeEmpty(t, got, g)
		}
		mustBeAlike(t, got, also)
	}
}

// upTo are the numbers from 0 on below one.
func upTo(n int) []int {
	l := make([]int, n)
	for k := range l {
		l[k] = k
	}
	return l
}

// mustFormatByEach fails, unless a device becomes an empty image, and is cut off, as it should by each fuse.
func mustFormatByEach(t *testing.T, d *pm.Device, g geometry.Geometry) {
	t.Helper()
	mustFormat(t, d, g, upTo(len(stepsOf(g, d)))...)
}

// mustRefuse fails, unless Format answers ErrArg of a device and a geometry, and does nothing, whether the device is up or not.
func mustRefuse(t *testing.T, d *pm.Device, g geometry.Geometry) {
	t.Helper()
	for fuse := -1; fuse < 2; fuse++ {
		got, also := armed(d, fuse), armed(d, fuse)
		if e := Format(got, g); e != api.ErrArg {
			t.Fatalf("%+v, %d words: %d", g, d.Len(), e)
		}
		mustBeAlike(t, got, also)
	}
}

// anyWords are so many words of anything, none of which is that of the empty image.
func anyWords(r *rand.Rand, g geometry.Geometry) []uint64 {
	l := emptyOf(g)
	for w, x := range l {
		for l[w] == x {
			l[w] = r.Uint64()
		}
	}
	return l
}
