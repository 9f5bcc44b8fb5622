package recover

import (
	"slices"
	"testing"

	"cantle/api"
	"cantle/geometry"
	"cantle/pm"
	"cantle/record"
)

// P20.1, P20.2: of a device that is sound

// The chapter's example: of an image OK, a zero report, no steps, also if it is down.
func TestImage(t *testing.T) {
	for _, g := range []geometry.Geometry{small(), wide(), {Blocks: 64, Inodes: 9, Size: 128}, {Blocks: 65, Inodes: 7, Size: 256}} {
		l, used := shelf(t, g)
		mustRecover(t, pm.Of(l), g, used)
		for fuse := -1; fuse < 2; fuse++ {
			d := armed(pm.Of(l), fuse)
			if r, e := Recover(d); r != (Report{}) || e != api.OK || d.Steps() != 0 || !slices.Equal(d.Words(), l) {
				t.Error(r, e, d.Steps())
			}
			if needs, e := Needs(d); needs || e != api.OK {
				t.Error(needs, e)
			}
		}
	}
}

// The least image, and one whose blocks are all used.
func TestImagesAtTheirEnds(t *testing.T) {
	g := geometry.Geometry{Blocks: 1, Inodes: 1, Size: 64}
	l, used, _ := laid(t, chance(2), g, dir(0))
	mustRecover(t, pm.Of(l), g, used)
	for bit := range 64 {
		mustRecover(t, pm.Of(turned(l, [2]int{bitmapAt(g), bit})), g, used)
	}
	g = geometry.Geometry{Blocks: 128, Inodes: 2, Size: 64}
	l, used, _ = laid(t, chance(3), g, dir(0, to("a", 1)), doc(1, string(make([]byte, 127*64))))
	if used.Free() != 0 {
		t.Fatal(used.Free())
	}
	mustRecover(t, pm.Of(l), g, used)
	for _, w := range [][]uint64{{0, 0}, {0, 1<<64 - 1}, {1<<64 - 1, 0}, {1<<64 - 1, 1<<63 - 1}} {
		mustRecover(t, pm.Of(with(l, bitmapAt(g), w...)), g, used)
	}
}

// Steps by hand: of the bitmap alone, of the record alone, and of both, each with what is reported.
func TestStepsByHand(t *testing.T) {
	g := small()
	l, _ := shelf(t, g)
	move := record.Record{Slot: 1, From: 2, To: 3, Count: 4}
	first := bitmapAt(g)
	full := recordOf(t, move)
	one, two := turned(l, [2]int{first, 3}), turned(l, [2]int{first, 3}, [2]int{first + 1, 5})
	for k, c := range []struct {
		words         []uint64
		stores, steps int
		want          Report
	}{
		{l, 0, 0, Report{}},
		{one, 1, 1 + 1 + 1, Report{Bits: 1}},
		{two, 2, 2 + 1 + 1, Report{Bits: 2}},
		{with(l, recordAt, full...), 3, 3 + 1 + 1, Report{Words: 3, Was: record.Full, Move: move}},
		{with(l, recordAt, full[:2]...), 2, 2 + 1 + 1, Report{Words: 2, Was: record.Torn}},
		{with(l, recordAt+5, 7), 1, 1 + 1 + 1, Report{Words: 1, Was: record.Torn}},
		{with(l, recordAt, 1, 2, 3, 4, 5, 6, 7, 8), 8, 8 + 1 + 1, Report{Words: 8, Was: record.Torn}},
		{with(one, recordAt, full...), 4, 3 + 3 + 1 + 1, Report{Bits: 1, Words: 3, Was: record.Full, Move: move}},
		{with(two, recordAt, full...), 5, 4 + 3 + 1 + 1, Report{Bits: 2, Words: 3, Was: record.Full, Move: move}},
		{with(two, recordAt+7, 1), 3, 4 + 1 + 1 + 1, Report{Bits: 2, Words: 1, Was: record.Torn}},
	} {
		d := pm.Of(c.words)
		if needs, e := Needs(d); needs != (c.steps > 0) || e != api.OK || d.Steps() != 0 {
			t.Error(k, needs, e, d.Steps())
		}
		if r, e := Recover(d); r != c.want || e != api.OK || d.Stores() != c.stores || d.Steps() != c.steps {
			t.Errorf("%d: %+v, %d, %d stores of %d steps", k, r, e, d.Stores(), d.Steps())
		}
		if !slices.Equal(d.Words(), l) {
			t.Error(k, "it is another device")
		}
	}
}

// The bitmap's words last ahead of the first store to the record, and the record's behind it.
func TestTheBitmapLastsFirst(t *testing.T) {
	g := small()
	l, used := shelf(t, g)
	first, full := bitmapAt(g), recordOf(t, record.Record{Slot: 1, From: 2, To: 3, Count: 4})
	bad := with(turned(l, [2]int{first, 3}, [2]int{first + 1, 5}), recordAt, full...)
	for fuse, c := range []struct{ bitmapLasts, recordStored bool }{
		{false, false}, {false, false}, {false, false}, {false, false}, {true, false}, {true, true}, {true, true}, {true, true}, {true, true},
	} {
		d := armed(pm.Of(bad), fuse)
		if r, e := Recover(d); r != (Report{}) || e != api.ErrDown || !d.Down() {
			t.Fatal(fuse, r, e)
		}
		lasts := d.Lasting(first) == used.Words()[0] && d.Lasting(first+1) == used.Words()[1]
		if stored := d.Load(recordAt) == 0; lasts != c.bitmapLasts || stored != c.recordStored || d.Lasting(recordAt) == 0 {
			t.Error(fuse, lasts, stored, d.Lasting(recordAt))
		}
	}
	d := armed(pm.Of(bad), 9)
	if r, e := Recover(d); r.Bits != 2 || r.Words != 3 || e != api.OK || d.Lasting(recordAt) != 0 {
		t.Error(r, e)
	}
}

// Each bit of the bitmap is turned: a block too many, one missing, one behind the last block, which makes it no map.
func TestEachBitOfTheBitmap(t *testing.T) {
	g := small()
	l, used := shelf(t, g)
	for w := bitmapAt(g); w < bitmapAt(g)+bitWords(g); w++ {
		for bit := range 64 {
			mustRecover(t, pm.Of(turned(l, [2]int{w, bit})), g, used)
		}
	}
}

// Any words of the record, each bit of it alone, and each of a record's that is Full.
func TestEachBitOfTheRecord(t *testing.T) {
	g := geometry.Geometry{Blocks: 30, Inodes: 7, Size: 64}
	l, used := shelf(t, g)
	wrong := turned(l, [2]int{bitmapAt(g), 7})
	full := recordOf(t, record.Record{Slot: 65533, From: 65533, To: 65533, Count: 65534})
	for _, line := range [][]uint64{make([]uint64, 8), full} {
		for w := range 8 {
			for bit := range 64 {
				torn := turned(line, [2]int{w, bit})
				mustRecover(t, pm.Of(with(l, recordAt, torn...)), g, used)
				mustRecover(t, pm.Of(with(wrong, recordAt, torn...)), g, used)
			}
		}
	}
}

// All kinds of bitmaps with all kinds of records.
func TestBothWrong(t *testing.T) {
	for _, g := range []geometry.Geometry{small(), wide(), {Blocks: 64, Inodes: 7, Size: 64}} {
		l, used := shelf(t, g)
		maps, records := unlike(t, g, l)
		for _, m := range maps {
			for _, x := range records {
				mustRecover(t, pm.Of(with(with(l, bitmapAt(g), m...), recordAt, x...)), g, used)
			}
		}
	}
}

// What is written is told by what is seen, not by what lasts; a line that is flushed takes all that is pending in it along, as that is a device's way.
func TestWhatIsPending(t *testing.T) {
	g := small()
	l, used := shelf(t, g)
	first := bitmapAt(g)
	words := used.Words()
	full := recordOf(t, record.Record{Slot: 1, From: 2, To: 3, Count: 4})
	for k, stores := range [][]step{
		{{"store", first, 0}, {"store", first, words[0]}},
		{{"store", first, 5}, {"flush", first / 8, 0}, {"store", first, words[0]}},
		{{"store", first, 5}, {"flush", first / 8, 0}, {"store", first, 6}},
		{{"store", first, 5}, {"flush", first / 8, 0}, {"store", first, words[0]}, {"store", first + 1, 7}},
		{{"store", recordAt, 5}, {"store", recordAt, 0}},
		{{"store", recordAt, full[0]}, {"store", recordAt + 1, full[1]}, {"store", recordAt + 7, full[7]}},
		{{"store", recordAt, 1}, {"flush", 1, 0}, {"store", recordAt, 0}, {"store", recordAt + 7, 2}, {"store", first, 3}},
		{{"store", first + 2, 5}, {"store", first, 5}},
		{{"store", blockAt(g, 0), l[blockAt(g, 0)]}, {"store", recordAt, 2}},
	} {
		d := pm.Of(l)
		walk(d, stores)
		if !t.Run("", func(t *testing.T) { mustRecover(t, d, g, used) }) {
			t.Error(k)
		}
	}
}

// A device that did steps already, and had crashes, is no other one.
func TestBehindOtherSteps(t *testing.T) {
	g := small()
	l, used := shelf(t, g)
	d := pm.Of(l)
	for k := range 20 {
		d.Store(bitmapAt(g)+k%2, uint64(k)*0x123456789)
		d.Store(recordAt+k%8, uint64(k))
		d.Crash(byte(k), byte(k/2))
		mustRecover(t, d, g, used)
		if _, e := Recover(d); e != api.OK || !slices.Equal(d.Words(), l) {
			t.Fatal(k, e)
		}
	}
}

// As many blocks, and as many inodes, as there may be: all words of the bitmap are wrong, or the last one alone.
func TestGreatest(t *testing.T) {
	g := geometry.Geometry{Blocks: api.MaxBlocks, Inodes: api.MaxInodes, Size: 64}
	l, used, _ := laid(t, chance(4), g, dir(0, to("a", api.MaxInodes-1)), doc(api.MaxInodes-1, string(make([]byte, 40000*64))))
	first, count := bitmapAt(g), bitWords(g)
	all := with(l, recordAt, 1, 2)
	for w := first; w < first+count; w++ {
		all[w] = ^all[w]
	}
	for k, c := range []struct {
		words       []uint64
		steps, bits int
	}{
		{l, 0, 0}, {turned(l, [2]int{first + count - 1, 63}), 3, 1}, {turned(l, [2]int{first, 0}, [2]int{first + count - 1, 61}), 5, 2}, {all, 1024 + 128 + 1 + 2 + 1 + 1, 1024},
	} {
		d := pm.Of(c.words)
		r, e := Recover(d)
		if e != api.OK || r.Bits != c.bits || d.Steps() != c.steps || !slices.Equal(d.Words(), l) {
			t.Error(k, r, e, d.Steps())
		}
		if c.bits < 1024 {
			continue
		}
		for _, fuse := range []int{0, 1, 1023, 1024, 1151, 1152, 1153, 1154, 1155, 1156} {
			got, also := armed(pm.Of(c.words), fuse), armed(pm.Of(c.words), fuse)
			steps, _, _ := stepsOf(g, also, used)
			walk(also, steps)
			if r, e := Recover(got); r != (Report{}) || e != api.ErrDown || !got.Same(also) || got.Steps() != fuse || got.Stores() != also.Stores() {
				t.Error(fuse, r, e)
			}
		}
	}
}
