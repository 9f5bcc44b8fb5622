package check

import (
	"slices"
	"testing"

	"cantle/geometry"
	"cantle/record"
)

// P19.1: Bitmap, Record

// P1: each bit of the bitmap is turned: a block too many, one missing, and each one behind the last block, which makes it no map.
func TestBitmap(t *testing.T) {
	for _, g := range []geometry.Geometry{
		small(), {Blocks: 63, Inodes: 10, Size: 64}, {Blocks: 64, Inodes: 10, Size: 64}, {Blocks: 65, Inodes: 10, Size: 64}, {Blocks: 130, Inodes: 10, Size: 128},
	} {
		l, p := laid(t, chance(8), g, shelved()...)
		mustJudge(t, l, None)
		first, words := bitmapAt(g), (g.Blocks+63)/64
		for w := first; w < first+words; w++ {
			for bit := range 64 {
				l[w] ^= 1 << bit
				mustJudge(t, l, Bitmap)
				l[w] ^= 1 << bit
			}
		}
		// what fills the bitmap's last line is no block's
		for w := first + words; w < first+filled(words); w++ {
			for bit := range 64 {
				l[w] ^= 1 << bit
				mustJudge(t, l, None)
				l[w] ^= 1 << bit
			}
		}
		old := slices.Clone(l[first : first+words])
		clear(l[first : first+words])
		mustJudge(t, l, Bitmap)
		for b := range g.Blocks {
			l[first+b/64] |= 1 << (b % 64)
		}
		mustJudge(t, l, Bitmap)
		// as many blocks as there are claims of, but other ones
		copy(l[first:], old)
		used, free := slices.IndexFunc(p.blocks, func(i int) bool { return i >= 0 }), slices.Index(p.blocks, -1)
		l[first+used/64] ^= 1 << (used % 64)
		l[first+free/64] ^= 1 << (free % 64)
		mustJudge(t, l, Bitmap)
	}
}

// Of an image without blocks, and of one whose blocks are all used.
func TestBitmapAtItsEnds(t *testing.T) {
	g := geometry.Geometry{Blocks: 64, Inodes: 3, Size: 64}
	l, _ := laid(t, chance(9), g, dir(0))
	mustJudge(t, l, None)
	l[bitmapAt(g)] = 1 << 63
	mustJudge(t, l, Bitmap)
	l, _ = laid(t, chance(9), g, dir(0, to("a", 1)), doc(1, string(make([]byte, 63*64))))
	if l[bitmapAt(g)] != 1<<64-1 {
		t.Fatal(l[bitmapAt(g)])
	}
	mustJudge(t, l, None)
	l[bitmapAt(g)] = 0
	mustJudge(t, l, Bitmap)
}

// P1: any bit of the record's line, which makes it a torn one; whole lines of records, of anything, and of all bits.
func TestRecord(t *testing.T) {
	l, _ := shelf(t)
	for w := 8; w < 16; w++ {
		for bit := range 64 {
			l[w] ^= 1 << bit
			mustJudge(t, l, Record)
			l[w] ^= 1 << bit
		}
	}
	r := chance(10)
	for range 200 {
		for w := 8; w < 16; w++ {
			l[w] = r.Uint64()
		}
		mustJudge(t, l, Record)
	}
	for _, x := range []record.Record{{Count: 1}, {Slot: 3, From: 4, To: 5, Count: 2}, {Slot: 65533, From: 65533, To: 65533, Count: 65534}} {
		line, e := record.Encode(x)
		if e != 0 {
			t.Fatal(x)
		}
		copy(l[8:], line)
		mustJudge(t, l, Record)
		for w := range 8 { // a part of it
			copy(l[8:], line)
			clear(l[9+w : 16])
			mustJudge(t, l, Record)
		}
	}
	clear(l[8:16])
	mustJudge(t, l, None)
}

// P1: each bit of a whole device is turned: what is wrong then hangs on where it stands alone.
func TestEachBit(t *testing.T) {
	l, p := shelf(t)
	g := small()
	files := map[int]bool{}
	for _, x := range shelved() {
		files[x.number] = x.kind == 1
	}
	wants := map[Fault]int{}
	for w := range l {
		want := None
		switch {
		case w < 8:
			want = Super
		case w < 16:
			want = Record
		case w < slotAt(g, 0):
			want = Claims
		case w < slotAt(g, g.Blocks):
			if p.slots[w-slotAt(g, 0)] >= 0 {
				want = Claims
			}
		case w == bitmapAt(g):
			want = Bitmap
		case w >= blockAt(g, 0):
			if i := p.blocks[(w-blockAt(g, 0))/8]; i >= 0 && !files[i] {
				want = Folder
			}
		}
		for bit := range 64 {
			l[w] ^= 1 << bit
			mustJudge(t, l, want)
			l[w] ^= 1 << bit
			wants[want]++
		}
	}
	for _, f := range []Fault{None, Super, Claims, Folder, Bitmap, Record} {
		if wants[f] < 64 {
			t.Error(Name(f), wants[f])
		}
	}
}
