package volume

import (
	"encoding/binary"
	"math/bits"
	"slices"
	"testing"

	"cantle/api"
	"cantle/geometry"
	"cantle/inode"
	"cantle/pm"
	"cantle/record"
	"cantle/slot"
)

// inodes are some that may be.
func inodes() []inode.Inode {
	return []inode.Inode{
		inode.None(), {Kind: inode.File, Head: -1}, {Kind: inode.Dir, Head: -1}, {Kind: inode.File, Head: 2, Size: 5}, {Kind: inode.Dir, Head: 0, Size: 64},
		{Kind: inode.File, Head: 65533, Size: 1 << 28}, {Kind: inode.Dir, Head: 65533, Size: 1 << 28}, {Kind: inode.File, Head: 0, Size: 1},
	}
}

// noInodes are some that may not be.
func noInodes() []inode.Inode {
	return []inode.Inode{
		{}, {Kind: inode.Free, Head: -1, Size: 1}, {Kind: inode.Free, Head: 0}, {Kind: inode.File}, {Kind: inode.File, Head: -1, Size: 1}, {Kind: inode.File, Head: 2},
		{Kind: inode.Dir, Head: 2, Size: 63}, {Kind: inode.File, Head: 65534, Size: 1}, {Kind: inode.File, Head: -2, Size: 1}, {Kind: inode.File, Head: 0, Size: 1<<28 + 1},
		{Kind: 3, Head: -1}, {Kind: -1, Head: -1}, {Kind: inode.File + 1<<16, Head: 2, Size: 5}, {Kind: inode.File, Head: 2 + 1<<16, Size: 5}, {Kind: inode.File, Head: 2, Size: 5 - 1<<32},
	}
}

// slots are some that may be.
func slots() []slot.Slot {
	return []slot.Slot{
		{Start: 0, Count: 1, Next: -1}, {Start: 1, Count: 2, Next: 3}, {Start: 65533, Count: 1, Next: 65533}, {Start: 0, Count: 65534, Next: 0}, {Start: 65000, Count: 534, Next: -1},
	}
}

// noSlots are some that may not be.
func noSlots() []slot.Slot {
	return []slot.Slot{
		{}, {Start: 0, Count: 0, Next: -1}, {Start: -1, Count: 1, Next: -1}, {Start: 65534, Count: 1, Next: -1}, {Start: 65533, Count: 2, Next: -1}, {Start: 0, Count: 65535, Next: -1},
		{Start: 0, Count: 1, Next: -2}, {Start: 0, Count: 1, Next: 65534}, {Start: 0, Count: 1, Next: 65535}, {Start: 1 << 16, Count: 1, Next: -1}, {Start: 0, Count: 1 + 1<<32, Next: -1},
	}
}

// records are some that may be.
func records() []record.Record {
	return []record.Record{{Slot: 1, From: 2, To: 0, Count: 1}, {Slot: 2, From: 3, To: 4, Count: 5}, {Count: 1}, {Slot: 65533, From: 65533, To: 65533, Count: 65534}}
}

// noRecords are some that may not be.
func noRecords() []record.Record {
	return []record.Record{
		{}, {Slot: 1, From: 2, To: 3}, {Slot: -1, Count: 1}, {From: -1, Count: 1}, {To: -1, Count: 1}, {Count: -1}, {Slot: 65534, Count: 1}, {From: 65534, Count: 1},
		{To: 65534, Count: 1}, {Count: 65535}, {Slot: 1 << 16, Count: 1}, {Count: 1 << 32},
	}
}

// mustNotStep fails, if a device did a step.
func mustNotStep(t *testing.T, d *pm.Device) {
	t.Helper()
	if d.Steps() != 0 {
		t.Fatalf("what reads did %d steps", d.Steps())
	}
}

// P15.2

func TestInodeByItsPlace(t *testing.T) {
	for _, g := range small() {
		for _, i := range some(g.Inodes) {
			for _, n := range inodes() {
				d := with(g, partsOf(g).inodes+8*i, inodeOf(n)...)
				if got, e := opened(t, d).Inode(i); got != n || e != api.OK {
					t.Errorf("%+v, inode %d: %+v, %d, want %+v", g, i, got, e, n)
				}
				mustNotStep(t, d)
			}
		}
	}
}

func TestInodeThatThereIsnt(t *testing.T) {
	for _, g := range small() {
		v := opened(t, full(g))
		for _, i := range noneOf(g.Inodes) {
			if n, e := v.Inode(i); n != inode.None() || e != api.ErrRange {
				t.Errorf("%+v, inode %d: %+v, %d", g, i, n, e)
			}
		}
		mustNotStep(t, v.Device())
	}
}

func TestInodeOfWordsThatAreNones(t *testing.T) {
	g := geometry.Geometry{Blocks: 3, Inodes: 3, Size: 64}
	for _, i := range some(g.Inodes) {
		for _, n := range inodes() {
			for w := range 8 {
				for bit := range 64 {
					l := inodeOf(n)
					l[w] ^= 1 << bit
					v := opened(t, with(g, 16+8*i, l...))
					if got, e := v.Inode(i); got != inode.None() || e != api.ErrForm {
						t.Fatalf("%+v with bit %d of word %d turned: %+v, %d", n, bit, w, got, e)
					}
				}
			}
		}
		for _, l := range [][]uint64{summed(0), summed(3, 0), summed(1, 5), summed(1+3<<16, 0), summed(2+3<<16, 65), summed(1+3<<16, 5, 1), summed(1+3<<16+1<<32, 5), {1}, {0, 0, 0, 0, 0, 0, 0, 1}} {
			if got, e := opened(t, with(g, 16+8*i, l...)).Inode(i); got != inode.None() || e != api.ErrForm {
				t.Errorf("%x: %+v, %d", l, got, e)
			}
		}
	}
}

func TestInodesLinesAreApart(t *testing.T) {
	g := geometry.Geometry{Blocks: 3, Inodes: 3, Size: 64}
	d := with(g, 16, slices.Concat(inodeOf(inodes()[3]), []uint64{1}, make([]uint64, 7), inodeOf(inodes()[4]))...)
	v := opened(t, d)
	if n, e := v.Inode(0); n != inodes()[3] || e != api.OK {
		t.Error(n, e)
	}
	if n, e := v.Inode(1); n != inode.None() || e != api.ErrForm {
		t.Error(n, e)
	}
	if n, e := v.Inode(2); n != inodes()[4] || e != api.OK {
		t.Error(n, e)
	}
}

func TestSlotByItsPlace(t *testing.T) {
	for _, g := range small() {
		for _, s := range some(g.Blocks) {
			for _, x := range slots() {
				d := with(g, partsOf(g).slots+s, slotOf(t, x))
				if got, e := opened(t, d).Slot(s); got != x || e != api.OK {
					t.Errorf("%+v, slot %d: %+v, %d, want %+v", g, s, got, e, x)
				}
				mustNotStep(t, d)
			}
		}
	}
}

func TestSlotThatThereIsnt(t *testing.T) {
	for _, g := range small() {
		p := partsOf(g)
		l := full(g).Words()
		for w := p.slots; w < p.blocks; w++ {
			l[w] = slotOf(t, slots()[1])
		}
		v := opened(t, pm.Of(l))
		for _, s := range noneOf(g.Blocks) {
			if x, e := v.Slot(s); x != (slot.Slot{}) || e != api.ErrRange {
				t.Errorf("%+v, slot %d: %+v, %d", g, s, x, e)
			}
		}
		mustNotStep(t, v.Device())
	}
}

func TestSlotOfAWordThatIsNones(t *testing.T) {
	g := geometry.Geometry{Blocks: 3, Inodes: 2, Size: 64}
	for _, s := range some(g.Blocks) {
		words := []uint64{0, 1, ^uint64(0)}
		for _, x := range slots() {
			for bit := range 64 {
				words = append(words, slotOf(t, x)^1<<bit)
			}
		}
		for _, x := range words {
			if got, e := opened(t, with(g, 32+s, x)).Slot(s); got != (slot.Slot{}) || e != api.ErrForm {
				t.Errorf("%x: %+v, %d", x, got, e)
			}
		}
	}
}

func TestBitmapOfItsWords(t *testing.T) {
	r := chance(2)
	for _, g := range small() {
		p := partsOf(g)
		for range 5 {
			l := full(g).Words()
			words := l[p.bits : p.bits+bitWords(g)]
			for k := range words {
				words[k] = r.Uint64()
			}
			if rest := g.Blocks % 64; rest != 0 {
				words[len(words)-1] &= 1<<rest - 1
			}
			count := 0
			for _, x := range words {
				count += bits.OnesCount64(x)
			}
			d := pm.Of(l)
			m, e := opened(t, d).Bitmap()
			if e != api.OK || m.Len() != g.Blocks || m.Count() != count || !slices.Equal(m.Words(), words) {
				t.Fatalf("%+v: %v, %d, want %x", g, m, e, words)
			}
			for b := range g.Blocks {
				if m.Has(b) != (words[b/64]>>(b%64)&1 == 1) {
					t.Fatalf("%+v: block %d: %v", g, b, m.Has(b))
				}
			}
			mustNotStep(t, d)
		}
	}
}

func TestBitmapOfNoneAndOfAll(t *testing.T) {
	for _, g := range small() {
		m, e := opened(t, blank(g)).Bitmap()
		if e != api.OK || m.Len() != g.Blocks || m.Count() != 0 {
			t.Errorf("%+v: %v, %d", g, m, e)
		}
		var words []uint64
		for b := range g.Blocks {
			if b%64 == 0 {
				words = append(words, 0)
			}
			words[b/64] |= 1 << (b % 64)
		}
		m, e = opened(t, with(g, partsOf(g).bits, words...)).Bitmap()
		if e != api.OK || m.Count() != g.Blocks || m.Free() != 0 {
			t.Errorf("%+v: %v, %d", g, m, e)
		}
	}
}

func TestBitmapWithABitBehindTheLastBlock(t *testing.T) {
	for _, g := range small() {
		last := partsOf(g).bits + bitWords(g) - 1
		for bit := (g.Blocks-1)%64 + 1; bit < 64; bit++ {
			if m, e := opened(t, with(g, last, 1<<bit)).Bitmap(); m != nil || e != api.ErrForm {
				t.Errorf("%+v, bit %d: %v, %d", g, bit, m, e)
			}
		}
		if g.Blocks%64 != 0 {
			if m, e := opened(t, with(g, last, ^uint64(0))).Bitmap(); m != nil || e != api.ErrForm {
				t.Errorf("%+v: %v, %d", g, m, e)
			}
		}
	}
}

func TestRecordIsAsItsLineIs(t *testing.T) {
	for _, g := range small() {
		d := blank(g)
		if r, s := opened(t, d).Record(); r != (record.Record{}) || s != record.Empty {
			t.Errorf("%+v: %+v, %d", g, r, s)
		}
		mustNotStep(t, d)
		for _, want := range records() {
			d := with(g, recordAt, recordOf(want)...)
			if r, s := opened(t, d).Record(); r != want || s != record.Full {
				t.Errorf("%+v: %+v, %d, want %+v", g, r, s, want)
			}
			mustNotStep(t, d)
		}
	}
}

func TestRecordThatIsTorn(t *testing.T) {
	g := geometry.Geometry{Blocks: 3, Inodes: 2, Size: 64}
	var lines [][]uint64
	for _, r := range records() {
		for w := range 8 {
			for bit := range 64 {
				l := recordOf(r)
				l[w] ^= 1 << bit
				lines = append(lines, l)
			}
		}
		for _, w := range []int{0, 1, 7} {
			l := recordOf(r)
			l[w] = 0
			lines = append(lines, l)
		}
	}
	lines = append(lines, summed(), summed(1, 0), summed(2, 1), summed(1, 65535), []uint64{0, 0, 0, 0, 0, 0, 0, 1})
	for _, l := range lines {
		if r, s := opened(t, with(g, recordAt, l...)).Record(); r != (record.Record{}) || s != record.Torn {
			t.Fatalf("%x: %+v, %d", l, r, s)
		}
	}
}

func TestBlockByItsPlace(t *testing.T) {
	for _, g := range small() {
		d := full(g)
		v := opened(t, d)
		for _, b := range some(g.Blocks) {
			var want []byte
			for w := range g.Size / 8 {
				want = binary.LittleEndian.AppendUint64(want, d.Load(partsOf(g).blocks+b*g.Size/8+w))
			}
			if got, e := v.Block(b); e != api.OK || len(got) != g.Size || string(got) != string(want) {
				t.Errorf("%+v, block %d: %x, %d, want %x", g, b, got, e, want)
			}
		}
		mustNotStep(t, d)
	}
}

func TestBlockThatThereIsnt(t *testing.T) {
	for _, g := range small() {
		v := opened(t, full(g))
		for _, b := range noneOf(g.Blocks) {
			if l, e := v.Block(b); len(l) != 0 || e != api.ErrRange {
				t.Errorf("%+v, block %d: %x, %d", g, b, l, e)
			}
		}
		mustNotStep(t, v.Device())
	}
}

func TestWhatIsReadIsAsItIsSeen(t *testing.T) {
	g := geometry.Geometry{Blocks: 3, Inodes: 2, Size: 64}
	d := blank(g)
	v := opened(t, d)
	p := partsOf(g)
	for w, x := range inodeOf(inodes()[3]) {
		d.Store(p.inodes+w, x)
	}
	for w, x := range recordOf(records()[1]) {
		d.Store(recordAt+w, x)
	}
	d.Store(p.slots+1, slotOf(t, slots()[1]))
	d.Store(p.bits, 5)
	d.Store(p.blocks, 'a')
	d.Arm(0)
	if n, e := v.Inode(0); n != inodes()[3] || e != api.OK {
		t.Error(n, e)
	}
	if r, s := v.Record(); r != records()[1] || s != record.Full {
		t.Error(r, s)
	}
	if x, e := v.Slot(1); x != slots()[1] || e != api.OK {
		t.Error(x, e)
	}
	if m, e := v.Bitmap(); e != api.OK || m.Count() != 2 || !m.Has(2) {
		t.Error(m, e)
	}
	if l, e := v.Block(0); e != api.OK || l[0] != 'a' {
		t.Error(l, e)
	}
	d.Crash()
	if n, e := v.Inode(0); n != inode.None() || e != api.OK {
		t.Error("behind a crash: ", n, e)
	}
	if r, s := v.Record(); r != (record.Record{}) || s != record.Empty {
		t.Error("behind a crash: ", r, s)
	}
}

func TestPartsOfTheGreatestVolumes(t *testing.T) {
	for _, g := range great() {
		p := partsOf(g)
		d := full(g)
		v := opened(t, d)
		for w, x := range inodeOf(inodes()[3]) {
			d.Store(p.inodes+8*(g.Inodes-1)+w, x)
		}
		d.Store(p.slots+g.Blocks-1, slotOf(t, slots()[2]))
		d.Store(p.blocks+g.Blocks*g.Size/8-1, 'z'<<56)
		if n, e := v.Inode(g.Inodes - 1); n != inodes()[3] || e != api.OK {
			t.Error(n, e)
		}
		if x, e := v.Slot(g.Blocks - 1); x != slots()[2] || e != api.OK {
			t.Error(x, e)
		}
		if l, e := v.Block(g.Blocks - 1); e != api.OK || len(l) != g.Size || l[g.Size-1] != 'z' {
			t.Error(len(l), e)
		}
		if m, e := v.Bitmap(); m != nil || e != api.ErrForm {
			t.Error("of any words: ", e)
		}
		for w := range bitWords(g) {
			d.Store(p.bits+w, 1)
		}
		if m, e := v.Bitmap(); e != api.OK || m.Len() != g.Blocks || m.Count() != bitWords(g) {
			t.Error(e)
		}
		for _, k := range []int{g.Blocks, g.Inodes, 65534, 65535} {
			_, wrongI := v.Inode(max(k, g.Inodes))
			_, wrongS := v.Slot(max(k, g.Blocks))
			_, wrongB := v.Block(max(k, g.Blocks))
			if wrongI != api.ErrRange || wrongS != api.ErrRange || wrongB != api.ErrRange {
				t.Error(k, wrongI, wrongS, wrongB)
			}
		}
	}
}
