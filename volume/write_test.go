package volume

import (
	"encoding/binary"
	"slices"
	"testing"

	"cantle/api"
	"cantle/bitmap"
	"cantle/geometry"
	"cantle/inode"
	"cantle/pm"
	"cantle/record"
	"cantle/slot"
)

// tiny are the geometries whose writes are held against each step.
func tiny() []geometry.Geometry { return small()[:3] }

// mapOf is a map of so many blocks by its words, whose bits beyond are left out.
func mapOf(t *testing.T, blocks int, words ...uint64) *bitmap.Map {
	t.Helper()
	words = slices.Clone(words)
	if rest := blocks % 64; rest != 0 {
		words[len(words)-1] &= 1<<rest - 1
	}
	m, e := bitmap.Of(blocks, words...)
	if e != api.OK {
		t.Fatal(e)
	}
	return m
}

// blockOf are the words of a block by its bytes.
func blockOf(size int, data []byte) []uint64 {
	whole := append(slices.Clone(data), make([]byte, size-len(data))...)
	var l []uint64
	for k := 0; k < size; k += 8 {
		l = append(l, binary.LittleEndian.Uint64(whole[k:]))
	}
	return l
}

// P15.3: SetInode

func TestSetInodeWritesItsLine(t *testing.T) {
	for _, g := range tiny() {
		for _, i := range some(g.Inodes) {
			for _, n := range inodes() {
				call := untold(func(v *Volume) api.Errno { return v.SetInode(i, n) })
				words := wordsFrom(partsOf(g).inodes+8*i, inodeOf(n)...)
				mustWrite(t, full(g), words, 0, call)
				mustWrite(t, blank(g), words, 0, call)
			}
		}
	}
}

func TestSetInodeByHand(t *testing.T) {
	d := blank(geometry.Geometry{Blocks: 10, Inodes: 3, Size: 64})
	if e := opened(t, d).SetInode(2, inode.Inode{Kind: inode.File, Head: 2, Size: 5}); e != api.OK {
		t.Fatal(e)
	}
	if d.Load(32) != 196609 || d.Load(33) != 5 || d.Stores() != 8 || d.Steps() != 9 {
		t.Error(d.Load(32), d.Load(33), d.Stores(), d.Steps())
	}
}

func TestSetInodeOfWhatIsThereIsWrittenToo(t *testing.T) {
	g := geometry.Geometry{Blocks: 3, Inodes: 2, Size: 64}
	l := inodeOf(inodes()[3])
	mustWrite(t, with(g, 24, l...), wordsFrom(24, l...), 0, untold(func(v *Volume) api.Errno { return v.SetInode(1, inodes()[3]) }))
}

func TestSetInodeThatThereIsnt(t *testing.T) {
	for _, g := range small() {
		d := full(g)
		for _, i := range noneOf(g.Inodes) {
			// Of a number that is none's ErrRange comes first, whether or not the inode may be.
			for _, n := range []inode.Inode{inode.None(), inodes()[3], noInodes()[1], {}} {
				v := opened(t, d)
				if e := v.SetInode(i, n); e != api.ErrRange {
					t.Errorf("%+v, inode %d, %+v: %d", g, i, n, e)
				}
			}
		}
		mustNotStep(t, d)
		mustBeAlike(t, d, full(g))
	}
}

func TestSetInodeThatMayNotBe(t *testing.T) {
	for _, g := range tiny() {
		for _, i := range some(g.Inodes) {
			for _, n := range noInodes() {
				mustRefuse(t, full(g), api.ErrArg, untold(func(v *Volume) api.Errno { return v.SetInode(i, n) }))
			}
		}
	}
}

// P15.3: SetSlot

func TestSetSlotWritesItsWord(t *testing.T) {
	for _, g := range small()[:6] {
		for _, s := range some(g.Blocks) {
			for _, x := range slots() {
				call := untold(func(v *Volume) api.Errno { return v.SetSlot(s, x) })
				words := wordsFrom(partsOf(g).slots+s, slotOf(t, x))
				mustWrite(t, full(g), words, 0, call)
				mustWrite(t, blank(g), words, 0, call)
			}
		}
	}
}

func TestSetSlotByHand(t *testing.T) {
	d := blank(geometry.Geometry{Blocks: 10, Inodes: 3, Size: 64})
	if e := opened(t, d).SetSlot(9, slot.Slot{Start: 1, Count: 2, Next: 3}); e != api.OK {
		t.Fatal(e)
	}
	if d.Load(49)&(1<<48-1) != 1+2<<16+3<<32 || d.Stores() != 1 || d.Steps() != 2 {
		t.Error(d.Load(49), d.Stores(), d.Steps())
	}
}

func TestSetSlotOfWhatIsThereIsWrittenToo(t *testing.T) {
	g := geometry.Geometry{Blocks: 3, Inodes: 2, Size: 64}
	x := slotOf(t, slots()[1])
	mustWrite(t, with(g, 33, x), wordsFrom(33, x), 0, untold(func(v *Volume) api.Errno { return v.SetSlot(1, slots()[1]) }))
}

func TestSetSlotThatThereIsnt(t *testing.T) {
	for _, g := range small() {
		d := full(g)
		for _, s := range noneOf(g.Blocks) {
			for _, x := range []slot.Slot{slots()[0], slots()[1], noSlots()[2], {}} {
				if e := opened(t, d).SetSlot(s, x); e != api.ErrRange {
					t.Errorf("%+v, slot %d, %+v: %d", g, s, x, e)
				}
			}
		}
		mustNotStep(t, d)
		mustBeAlike(t, d, full(g))
	}
}

func TestSetSlotThatMayNotBe(t *testing.T) {
	for _, g := range tiny() {
		for _, s := range some(g.Blocks) {
			for _, x := range noSlots() {
				mustRefuse(t, full(g), api.ErrArg, untold(func(v *Volume) api.Errno { return v.SetSlot(s, x) }))
			}
		}
	}
}

func TestSetsThatAreOutOfRangeOnADeviceThatIsDown(t *testing.T) {
	g := geometry.Geometry{Blocks: 3, Inodes: 2, Size: 64}
	for _, k := range noneOf(3) {
		mustRefuse(t, full(g), api.ErrRange, untold(func(v *Volume) api.Errno { return v.SetInode(k, inodes()[3]) }))
		mustRefuse(t, full(g), api.ErrRange, untold(func(v *Volume) api.Errno { return v.SetSlot(k, slots()[1]) }))
		mustRefuse(t, full(g), api.ErrRange, untold(func(v *Volume) api.Errno { return v.SetBlock(k, []byte{1}) }))
	}
}

// P15.3: SetBitmap

func TestSetBitmapWritesTheWordsThatArentSo(t *testing.T) {
	r := chance(3)
	for _, g := range []geometry.Geometry{small()[0], small()[1], small()[3], small()[4], {Blocks: 200, Inodes: 1, Size: 64}} {
		p := partsOf(g)
		for range 6 {
			old, now := make([]uint64, bitWords(g)), make([]uint64, bitWords(g))
			words := map[int]uint64{}
			for k := range now {
				old[k] = r.Uint64()
				now[k] = r.Uint64()
			}
			m := mapOf(t, g.Blocks, now...)
			for k, x := range m.Words() {
				if r.IntN(3) == 0 {
					old[k] = x
				}
				if old[k] != x {
					words[p.bits+k] = x
				}
			}
			l := full(g).Words()
			copy(l[p.bits:], old)
			mustWrite(t, pm.Of(l), words, len(words), func(v *Volume) (int, api.Errno) { return v.SetBitmap(m) })
		}
	}
}

func TestSetBitmapThatIsSoAlready(t *testing.T) {
	for _, g := range small() {
		words := make([]uint64, bitWords(g))
		for k := range words {
			words[k] = 1
		}
		d := with(g, partsOf(g).bits, words...)
		d.Arm(0)
		v := opened(t, d)
		if n, e := v.SetBitmap(mapOf(t, g.Blocks, words...)); n != 0 || e != api.OK || d.Steps() != 0 {
			t.Errorf("%+v: %d, %d, %d steps", g, n, e, d.Steps())
		}
		own, e := v.Bitmap()
		if e != api.OK {
			t.Fatal(e)
		}
		if n, e := v.SetBitmap(own); n != 0 || e != api.OK || d.Steps() != 0 {
			t.Errorf("%+v: its own: %d, %d, %d steps", g, n, e, d.Steps())
		}
	}
}

// Of 520 blocks the bitmap has nine words, the last one of them in a line of its own.
func TestSetBitmapUnlikeInOneWordAndInAll(t *testing.T) {
	g := geometry.Geometry{Blocks: 520, Inodes: 3, Size: 64}
	first := partsOf(g).bits
	words := []uint64{1, 2, 3, 4, 5, 6, 7, 8, 9}
	d := with(g, first, words...)
	for _, unlike := range [][]int{{0}, {4}, {7}, {8}, {0, 8}, {1, 3, 5}, {7, 8}, {0, 1, 2, 3, 4, 5, 6, 7, 8}} {
		now := slices.Clone(words)
		changed := map[int]uint64{}
		for _, k := range unlike {
			now[k] = 1 << 7
			changed[first+k] = 1 << 7
		}
		m := mapOf(t, g.Blocks, now...)
		mustWrite(t, d, changed, len(unlike), func(v *Volume) (int, api.Errno) { return v.SetBitmap(m) })
	}
}

func TestSetBitmapOverBitsBehindTheLastBlock(t *testing.T) {
	g := geometry.Geometry{Blocks: 65, Inodes: 4, Size: 64}
	first := partsOf(g).bits
	d := with(g, first, 6, 1<<1+1)
	m := mapOf(t, g.Blocks, 6, 1)
	mustWrite(t, d, wordsFrom(first+1, 1), 1, func(v *Volume) (int, api.Errno) { return v.SetBitmap(m) })
}

func TestSetBitmapIsOfWhatIsSeen(t *testing.T) {
	g := geometry.Geometry{Blocks: 65, Inodes: 4, Size: 64}
	first := partsOf(g).bits
	d := with(g, first, 6, 1)
	d.Store(first, 7)
	before := d.Steps()
	v := opened(t, d)
	if n, e := v.SetBitmap(mapOf(t, g.Blocks, 7, 1)); n != 0 || e != api.OK || d.Steps() != before {
		t.Error(n, e)
	}
	if n, e := v.SetBitmap(mapOf(t, g.Blocks, 6, 1)); n != 1 || e != api.OK || d.Load(first) != 6 {
		t.Error(n, e)
	}
}

func TestSetBitmapOfAnotherLengthOrNone(t *testing.T) {
	for _, g := range small() {
		for _, m := range []*bitmap.Map{
			nil, bitmap.New(0), bitmap.New(g.Blocks - 1), bitmap.New(g.Blocks + 1), bitmap.New(g.Blocks + 64), bitmap.New(2 * g.Blocks), bitmap.New(65534),
		} {
			call := func(v *Volume) (int, api.Errno) { return v.SetBitmap(m) }
			mustRefuse(t, blank(g), api.ErrArg, call)
			mustRefuse(t, full(g), api.ErrArg, call)
		}
	}
	great := geometry.Geometry{Blocks: 65534, Inodes: 1, Size: 64}
	v := opened(t, blank(great))
	for _, m := range []*bitmap.Map{nil, bitmap.New(65533), bitmap.New(0)} {
		if n, e := v.SetBitmap(m); n != 0 || e != api.ErrArg {
			t.Error(n, e)
		}
	}
	m := bitmap.New(65534)
	m.Put(0, 65533)
	if n, e := v.SetBitmap(m); n != 2 || e != api.OK || v.Device().Steps() != 4 {
		t.Error(n, e, v.Device().Steps())
	}
}

// P15.3: SetRecord, ClearRecord

func TestSetRecordWritesItsLine(t *testing.T) {
	for _, g := range tiny() {
		for _, r := range records() {
			call := untold(func(v *Volume) api.Errno { return v.SetRecord(r) })
			words := wordsFrom(recordAt, recordOf(r)...)
			mustWrite(t, blank(g), words, 0, call)
			mustWrite(t, full(g), words, 0, call)
			mustWrite(t, with(g, recordAt, recordOf(r)...), words, 0, call)
		}
	}
}

func TestSetRecordThatMayNotBe(t *testing.T) {
	for _, g := range tiny() {
		for _, r := range noRecords() {
			call := untold(func(v *Volume) api.Errno { return v.SetRecord(r) })
			mustRefuse(t, full(g), api.ErrArg, call)
			mustRefuse(t, blank(g), api.ErrArg, call)
		}
	}
}

func TestClearRecordOfWhatIsThere(t *testing.T) {
	clearing := func(v *Volume) (int, api.Errno) { return v.ClearRecord() }
	for _, g := range tiny() {
		lines := [][]uint64{recordOf(records()[0]), recordOf(records()[3]), {1, 2, 3, 4, 5, 6, 7, 8}, {1}, {0, 0, 0, 0, 0, 0, 0, 1}, {0, 5, 0, 0, 6, 0, 0, 0}}
		for _, l := range lines {
			words := map[int]uint64{}
			for k, x := range l {
				if x != 0 {
					words[recordAt+k] = 0
				}
			}
			mustWrite(t, with(g, recordAt, l...), words, len(words), clearing)
		}
	}
}

func TestClearRecordOfAnEmptyOne(t *testing.T) {
	for _, g := range small() {
		d := blank(g)
		d.Arm(0)
		if n, e := opened(t, d).ClearRecord(); n != 0 || e != api.OK || d.Steps() != 0 {
			t.Errorf("%+v: %d, %d, %d steps", g, n, e, d.Steps())
		}
	}
}

func TestClearRecordByHand(t *testing.T) {
	d := blank(geometry.Geometry{Blocks: 3, Inodes: 2, Size: 64})
	v := opened(t, d)
	if e := v.SetRecord(record.Record{Slot: 2, From: 3, To: 4, Count: 5}); e != api.OK || d.Load(8) != 1+2<<16+3<<32+4<<48 || d.Load(9) != 5 || d.Steps() != 9 {
		t.Error(e, d.Load(8), d.Load(9), d.Steps())
	}
	if n, e := v.ClearRecord(); n != 3 || e != api.OK || d.Load(8) != 0 || d.Load(15) != 0 || d.Steps() != 13 {
		t.Error(n, e, d.Steps())
	}
	if n, e := v.ClearRecord(); n != 0 || e != api.OK || d.Steps() != 13 {
		t.Error(n, e, d.Steps())
	}
}

// P15.3: SetBlock

// bytesOf are so many bytes, none of which is 0.
func bytesOf(count int) []byte {
	l := make([]byte, count)
	for k := range l {
		l[k] = byte(k%251 + 1)
	}
	return l
}

func TestSetBlockWritesItsBytesAndNoughts(t *testing.T) {
	for _, g := range tiny() {
		for _, b := range some(g.Blocks) {
			for _, count := range []int{0, 1, 5, 7, 8, 9, 13, 16, g.Size - 8, g.Size - 1, g.Size} {
				data := bytesOf(count)
				call := untold(func(v *Volume) api.Errno { return v.SetBlock(b, data) })
				words := wordsFrom(partsOf(g).blocks+b*g.Size/8, blockOf(g.Size, data)...)
				mustWrite(t, full(g), words, 0, call)
				mustWrite(t, blank(g), words, 0, call)
			}
			noughts := wordsFrom(partsOf(g).blocks+b*g.Size/8, make([]uint64, g.Size/8)...)
			mustWrite(t, full(g), noughts, 0, untold(func(v *Volume) api.Errno { return v.SetBlock(b, nil) }))
		}
	}
}

func TestSetBlockOfTheGreatestSize(t *testing.T) {
	g := geometry.Geometry{Blocks: 2, Inodes: 2, Size: 4096}
	data := bytesOf(4093)
	for _, fuse := range []int{0, 1, 511, 512, 513, 575, 576} {
		d, want := full(g), full(g)
		d.Arm(fuse)
		want.Arm(fuse)
		wantE := api.ErrDown
		if fuse == 576 {
			wantE = api.OK
		}
		if e := opened(t, d).SetBlock(1, data); e != wantE {
			t.Errorf("of %d steps: %d", fuse, e)
		}
		walk(want, stepsOf(wordsFrom(partsOf(g).blocks+512, blockOf(4096, data)...)))
		mustBeAlike(t, d, want)
	}
}

func TestSetBlockByHand(t *testing.T) {
	d := blank(geometry.Geometry{Blocks: 3, Inodes: 2, Size: 64})
	v := opened(t, d)
	if e := v.SetBlock(2, []byte{1, 2, 3, 4, 5, 6, 7, 8, 9, 10}); e != api.OK || d.Steps() != 9 || d.Stores() != 8 {
		t.Error(e, d.Steps(), d.Stores())
	}
	first := partsOf(v.Geometry()).blocks + 16
	if d.Load(first) != 0x0807060504030201 || d.Load(first+1) != 0x0a09 || d.Load(first+2) != 0 {
		t.Errorf("%x %x", d.Load(first), d.Load(first+1))
	}
	if e := v.SetBlock(2, []byte{7}); e != api.OK || d.Load(first) != 7 || d.Load(first+1) != 0 {
		t.Errorf("%d: %x %x", e, d.Load(first), d.Load(first+1))
	}
}

func TestSetBlockOfTooManyBytes(t *testing.T) {
	for _, g := range small()[:7] {
		for _, b := range some(g.Blocks) {
			for _, more := range []int{1, 7, 8, g.Size} {
				mustRefuse(t, full(g), api.ErrArg, untold(func(v *Volume) api.Errno { return v.SetBlock(b, bytesOf(g.Size+more)) }))
				mustRefuse(t, blank(g), api.ErrArg, untold(func(v *Volume) api.Errno { return v.SetBlock(b, make([]byte, g.Size+more)) }))
			}
		}
	}
}

func TestSetBlockThatThereIsnt(t *testing.T) {
	for _, g := range small() {
		d := full(g)
		for _, b := range noneOf(g.Blocks) {
			for _, data := range [][]byte{nil, {1}, bytesOf(g.Size), bytesOf(g.Size + 1)} {
				if e := opened(t, d).SetBlock(b, data); e != api.ErrRange {
					t.Errorf("%+v, block %d, %d bytes: %d", g, b, len(data), e)
				}
			}
		}
		mustNotStep(t, d)
		mustBeAlike(t, d, full(g))
	}
}

// Writes at the last places of the greatest volumes, where a word more would be none's.
func TestWritesOfTheGreatestVolumes(t *testing.T) {
	for _, g := range great() {
		p := partsOf(g)
		d := full(g)
		want := d.Words()
		v := opened(t, d)
		for _, i := range some(g.Inodes) {
			if e := v.SetInode(i, inodes()[5]); e != api.OK {
				t.Error(e)
			}
			copy(want[p.inodes+8*i:], inodeOf(inodes()[5]))
		}
		for _, b := range some(g.Blocks) {
			if e := v.SetSlot(b, slots()[2]); e != api.OK {
				t.Error(e)
			}
			if e := v.SetBlock(b, bytesOf(g.Size-3)); e != api.OK {
				t.Error(e)
			}
			want[p.slots+b] = slotOf(t, slots()[2])
			copy(want[p.blocks+b*g.Size/8:], blockOf(g.Size, bytesOf(g.Size-3)))
		}
		m := bitmap.New(g.Blocks)
		m.Range(0, g.Blocks)
		if n, e := v.SetBitmap(m); n != bitWords(g) || e != api.OK {
			t.Error(n, e)
		}
		copy(want[p.bits:], m.Words())
		if !slices.Equal(d.Words(), want) {
			t.Errorf("%+v: other words changed", g)
		}
	}
}
