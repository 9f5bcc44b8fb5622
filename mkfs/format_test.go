package mkfs

import (
	"slices"
	"testing"

	"cantle/api"
	"cantle/geometry"
	"cantle/pm"
)

// P21.2: what Format writes, and in what order

// Devices of noughts, by each fuse.
func TestNoughts(t *testing.T) {
	for _, g := range []geometry.Geometry{least(), small(), wide(), {Blocks: 5, Inodes: 2, Size: 128}, {Blocks: 1, Inodes: 1, Size: 4096}, {Blocks: 65, Inodes: 9, Size: 64}} {
		d := pm.New(g.Words())
		if n := len(stepsOf(g, d)); n != 1+4+5 {
			t.Fatal(g, n)
		}
		mustFormatByEach(t, d, g)
		mustFormatByEach(t, pm.Of(make([]uint64, g.Words())), g)
	}
}

// Steps by hand: each one of a small device, some words of which aren't so already, in lines that follow one another, and with lines between.
func TestStepsByHand(t *testing.T) {
	g := small()
	want := emptyOf(g)
	l := make([]uint64, g.Words())
	copy(l, want)
	l[0], l[1], l[3], l[7] = 9, 0, 1, 2
	l[8], l[15], l[17], l[24], l[143] = 3, 4, 5, 6, 7
	steps := []step{
		{"store", 0, 0}, {"store", 3, 0}, {"store", 7, 0}, {"flush", 0, 0}, {"fence", 0, 0},
		{"store", 8, 0}, {"store", 15, 0}, {"flush", 1, 0}, {"store", 17, 0}, {"flush", 2, 0}, {"store", 24, 0}, {"flush", 3, 0}, {"store", 143, 0}, {"flush", 17, 0}, {"fence", 0, 0},
		{"store", 0, want[0]}, {"store", 1, want[1]}, {"store", 7, want[7]}, {"flush", 0, 0}, {"fence", 0, 0},
	}
	for fuse := range len(steps) + 2 {
		got, also := armed(pm.Of(l), fuse), armed(pm.Of(l), fuse)
		e := Format(got, g)
		walk(also, steps)
		if fuse < len(steps) && e != api.ErrDown || fuse >= len(steps) && e != api.OK {
			t.Fatal(fuse, e)
		}
		mustBeAlike(t, got, also)
	}
}

// How many steps and stores there are: of noughts, of such an image, of other words alone.
func TestCounts(t *testing.T) {
	g := small()
	for k, c := range []struct {
		words         []uint64
		stores, steps int
	}{
		{make([]uint64, 144), 2 + 3, 1 + 2 + 1 + 1 + 3 + 1 + 1},
		{emptyOf(g), 3 + 3, 3 + 1 + 1 + 1 + 3 + 1 + 1},
		{anyWords(chance(1), g), 8 + 136 + 3, 8 + 1 + 1 + 136 + 17 + 1 + 3 + 1 + 1},
		{slices.Repeat([]uint64{1<<64 - 1}, 144), 8 + 136 + 3, 8 + 1 + 1 + 136 + 17 + 1 + 3 + 1 + 1},
	} {
		d := pm.Of(c.words)
		if e := Format(d, g); e != api.OK || d.Stores() != c.stores || d.Steps() != c.steps {
			t.Errorf("%d: %d, %d stores of %d steps", k, e, d.Stores(), d.Steps())
		}
		mustBeEmpty(t, d, g)
		mustLast(t, d)
	}
}

// Devices of other words, each one other than the image's, by each fuse.
func TestOtherWords(t *testing.T) {
	for seed, g := range []geometry.Geometry{least(), small(), {Blocks: 3, Inodes: 9, Size: 128}} {
		mustFormatByEach(t, pm.Of(anyWords(chance(uint64(seed)), g)), g)
	}
	for seed, g := range []geometry.Geometry{wide(), {Blocks: 70, Inodes: 70, Size: 256}} {
		d := pm.Of(anyWords(chance(uint64(seed)), g))
		mustFormat(t, d, g, 0, 7, 8, 9, 10, 11, 17, 18, 1000, len(stepsOf(g, d))-6, len(stepsOf(g, d))-2, len(stepsOf(g, d))-1)
	}
}

// A device that is such an image already: its superblock alone is written, first as noughts; also many times, one behind the other.
func TestSuchAnImage(t *testing.T) {
	for _, g := range []geometry.Geometry{least(), small(), wide()} {
		d, e := Make(g)
		if e != api.OK {
			t.Fatal(e)
		}
		if n := len(stepsOf(g, d)); n != 5+1+5 {
			t.Fatal(n)
		}
		mustFormatByEach(t, d, g)
		for k := range 3 {
			if e := Format(d, g); e != api.OK || d.Steps() != 11*(k+1) || d.Stores() != 6*(k+1) {
				t.Fatal(e, d.Steps())
			}
			mustBeEmpty(t, d, g)
			mustLast(t, d)
		}
	}
}

// Each word of a device is another one, alone: by its lowest bit, by its highest, by all of them, and a nought.
func TestOneWord(t *testing.T) {
	g := small()
	for w, x := range emptyOf(g) {
		for _, other := range []uint64{x ^ 1, x ^ 1<<63, ^x, 0} {
			l := emptyOf(g)
			l[w] = other
			mustFormatByEach(t, pm.Of(l), g)
		}
	}
}

// By chance: some words are others, few of them and many, also of geometries with more lines of slots and of the bitmap.
func TestByChance(t *testing.T) {
	r := chance(2)
	for range 150 {
		g := geometry.Geometry{Blocks: 1 + r.IntN(20), Inodes: 1 + r.IntN(9), Size: 64 << r.IntN(2)}
		l, often := emptyOf(g), 1+r.IntN(12)
		for w := range l {
			switch r.IntN(often) {
			case 0:
				l[w] = r.Uint64() >> r.IntN(64)
			case 1:
				l[w] = 0
			}
		}
		d := pm.Of(l)
		var fuses []int
		for range 8 {
			fuses = append(fuses, r.IntN(len(stepsOf(g, d))))
		}
		mustFormat(t, d, g, fuses...)
	}
}

// A geometry whose superblock's sum is 0: one word less is stored.
func TestFormatUnsummed(t *testing.T) {
	g := unsummed()
	d := pm.New(g.Words())
	if e := Format(d, g); e != api.OK || d.Stores() != 2+2 || d.Steps() != 1+4+4 {
		t.Error(e, d.Stores(), d.Steps())
	}
	mustBeEmpty(t, d, g)
	mustLast(t, d)
	if e := Format(d, g); e != api.OK || d.Stores() != 4+2+2 || d.Steps() != 9+4+1+4 {
		t.Error(e, d.Stores(), d.Steps())
	}
}

// What is written is told by what is seen, not by what lasts; a line that is flushed takes all that is pending in it along, as that is a device's way.
func TestWhatIsPending(t *testing.T) {
	g := small()
	for k, stores := range [][]step{
		{{"store", 20, 7}, {"store", 143, 7}},
		{{"store", 20, 7}, {"store", 20, 0}},
		{{"store", 0, 5}, {"store", 0, 0}, {"store", 1, 4}, {"flush", 0, 0}, {"store", 1, 0}},
		{{"store", 0, 5}, {"flush", 0, 0}, {"store", 1, 6}},
		{{"store", 140, 5}, {"flush", 17, 0}, {"store", 140, 0}},
		{{"store", 140, 5}, {"flush", 17, 0}, {"store", 140, 0}, {"store", 141, 1}},
		{{"store", 16, 2}, {"store", 23, emptyOf(g)[23]}, {"store", 30, 0}},
		{{"store", 8, 0}, {"store", 8, 1}, {"fence", 0, 0}, {"flush", 1, 0}},
	} {
		for _, l := range [][]uint64{make([]uint64, 144), emptyOf(g)} {
			d := pm.Of(l)
			walk(d, stores)
			if !t.Run("", func(t *testing.T) { mustFormatByEach(t, d, g) }) {
				t.Error(k)
			}
		}
	}
}

// Behind a fuse that burnt, and behind a crash, a device is formatted as any other one.
func TestBehindACrash(t *testing.T) {
	g := small()
	d := pm.Of(anyWords(chance(3), g))
	r := chance(4)
	for range 40 {
		d.Arm(r.IntN(170))
		if e := Format(d, g); e == api.OK {
			mustBeEmpty(t, d, g)
			mustLast(t, d)
		} else if e != api.ErrDown || !d.Down() {
			t.Fatal(e)
		}
		if d.Down() {
			steps := d.Steps()
			if e := Format(d, g); e != api.ErrDown || d.Steps() != steps {
				t.Fatal(e, steps)
			}
		}
		d.Crash(byte(r.Uint32()), byte(r.Uint32()), 1, 0, 1)
		mustFormat(t, d, g, r.IntN(10), r.IntN(100))
	}
}

// Too many words, too few, and none; of a device that is down, too, that is told first.
func TestOtherLengths(t *testing.T) {
	for _, g := range []geometry.Geometry{least(), small(), {Blocks: 8, Inodes: 2, Size: 128}} {
		n := g.Words()
		for _, words := range []int{0, 1, 5, 7, 8, 16, n - 64, n - 8, n - 1, n + 1, n + 8, n + 64, 2 * n, 1 << 12} {
			if words == n || words < 0 {
				continue
			}
			mustRefuse(t, pm.New(words), g)
			l := slices.Repeat([]uint64{3}, words)
			mustRefuse(t, pm.Of(l), g)
			copy(l, emptyOf(g))
			mustRefuse(t, pm.Of(l), g)
		}
	}
	d := pm.New(144)
	d.Store(3, 7)
	d.Flush(0)
	mustRefuse(t, d, geometry.Geometry{Blocks: 11, Inodes: 3, Size: 64})
	mustRefuse(t, d, geometry.Geometry{Blocks: 9, Inodes: 3, Size: 64})
	mustRefuse(t, d, geometry.Geometry{Blocks: 10, Inodes: 3, Size: 128})
}

// Geometries that may not be, of any device.
func TestFormatMayNot(t *testing.T) {
	for _, g := range mayNot() {
		for _, words := range []int{0, 8, 144} {
			mustRefuse(t, pm.New(words), g)
			mustRefuse(t, pm.Of(slices.Repeat([]uint64{5}, words)), g)
		}
	}
}

// An image of another geometry, of as many words: just their number tells whether it may be formatted.
func TestOtherGeometries(t *testing.T) {
	g, o := geometry.Geometry{Blocks: 8, Inodes: 10, Size: 64}, geometry.Geometry{Blocks: 8, Inodes: 2, Size: 128}
	if g.Words() != o.Words() {
		t.Fatal(g.Words(), o.Words())
	}
	d, e := Make(g)
	if e != api.OK {
		t.Fatal(e)
	}
	mustFormatByEach(t, d, o)
	d, e = Make(o)
	if e != api.OK {
		t.Fatal(e)
	}
	mustFormatByEach(t, d, g)
}

// A device of many words, of which some are others, each at the end of a part.
func TestFormatManyWords(t *testing.T) {
	g := geometry.Geometry{Blocks: 65534, Inodes: 65534, Size: 256}
	d := pm.New(g.Words())
	d.Store(g.Words()-1, 7)
	d.Store(blocksAt(g)-1, 7)
	d.Store(slotsAt(g)-8, 7)
	if e := Format(d, g); e != api.OK || d.Stores() != 3+2+3+3 || d.Steps() != 3+1+5+4+1+5 {
		t.Error(e, d.Stores(), d.Steps())
	}
	mustBeEmpty(t, d, g)
	mustLast(t, d)
}
