package check

import (
	"testing"

	"cantle/api"
	"cantle/crc"
	"cantle/geometry"
	"cantle/inode"
	"cantle/pack"
	"cantle/slot"
	"cantle/super"
)

// P19.1: Super, Claims, Root

// shelf are words of a device with a file of two blocks and a bit, one of one block, one of none, a directory, and one in it.
func shelf(t testing.TB) ([]uint64, places) {
	t.Helper()
	return laid(t, chance(2), small(), shelved()...)
}

// shelved are its things.
func shelved() []thing {
	return []thing{
		dir(0, to("long", 2), to("d", 3), to("one", 4)),
		doc(2, string(make([]byte, 130))+"bytes"),
		dir(3, to("e", 5), to("none", 6)),
		doc(4, "one"),
		dir(5),
		doc(6, ""),
	}
}

// The chapter's example, and other devices that have no superblock: no words, too few, a superblock alone.
func TestSuper(t *testing.T) {
	l, _ := shelf(t)
	mustJudge(t, l, None)
	for _, n := range []int{0, 1, 7, 8, 9, 16, 144, len(l), 1 << 16} {
		mustJudge(t, make([]uint64, n), Super)
	}
	for n := range len(l) {
		if n < 40 || n > len(l)-40 {
			mustJudge(t, l[:n], Super)
		}
	}
	for _, more := range []int{1, 2, 7, 8, 9, 64, 1 << 12} {
		mustJudge(t, append(append([]uint64{}, l...), make([]uint64, more)...), Super)
	}
}

// A superblock of a geometry that has more or fewer words than the device, each time by as little as may be.
func TestSuperOfAnotherGeometry(t *testing.T) {
	l, _ := shelf(t)
	g := small()
	for _, o := range []geometry.Geometry{
		{Blocks: g.Blocks + 1, Inodes: g.Inodes, Size: g.Size}, {Blocks: g.Blocks - 1, Inodes: g.Inodes, Size: g.Size},
		{Blocks: g.Blocks, Inodes: g.Inodes + 1, Size: g.Size}, {Blocks: g.Blocks, Inodes: g.Inodes - 1, Size: g.Size},
		{Blocks: g.Blocks, Inodes: g.Inodes, Size: 2 * g.Size}, {Blocks: api.MaxBlocks, Inodes: 1, Size: 64},
	} {
		head, e := super.Encode(o)
		if e != api.OK {
			t.Fatal(o)
		}
		if o.Words() == len(l) {
			t.Fatal("no other geometry", o)
		}
		mustJudge(t, append(head, l[8:]...), Super)
	}
}

// P1: each bit of a superblock that is turned is told, and is told ahead of all else.
func TestSuperByBits(t *testing.T) {
	l, _ := shelf(t)
	for w := range 8 {
		for bit := range 64 {
			l[w] ^= 1 << bit
			mustJudge(t, l, Super)
			l[w] ^= 1 << bit
		}
	}
	mustJudge(t, l, None)
}

// P1: each bit of each inode's line that is turned is told, a free one's, and inode 0's, too.
func TestClaimsByBitsOfLines(t *testing.T) {
	l, _ := shelf(t)
	for w := 16; w < 16+8*small().Inodes; w++ {
		for bit := range 64 {
			l[w] ^= 1 << bit
			mustJudge(t, l, Claims)
			l[w] ^= 1 << bit
		}
	}
	mustJudge(t, l, None)
}

// P1: each bit of each slot of a chain that is turned is told; of a slot that is no chain's it is nothing.
func TestClaimsByBitsOfSlots(t *testing.T) {
	l, p := shelf(t)
	for s, owner := range p.slots {
		want := Claims
		if owner == -1 {
			want = None
		}
		for bit := range 64 {
			l[slotAt(small(), s)] ^= 1 << bit
			mustJudge(t, l, want)
			l[slotAt(small(), s)] ^= 1 << bit
		}
	}
}

// resize makes an inode's Size another one.
func resize(t *testing.T, l []uint64, number, size int) []uint64 {
	t.Helper()
	l = append([]uint64{}, l...)
	n := lineOf(t, l, number)
	n.Size = size
	lined(t, l, number, n)
	return l
}

// A chain has more or fewer blocks than the Size needs: just beyond the last size that needs as many, and far beyond. The bytes of sizes between are there.
func TestClaimsOfSizes(t *testing.T) {
	l, _ := shelf(t)
	for size := range 400 {
		if size == 0 {
			continue // a Head without bytes may not be
		}
		want := Claims
		if 129 <= size && size <= 192 {
			want = None
		}
		mustJudge(t, resize(t, l, 2, size), want)
	}
	for _, size := range []int{1 << 12, 1 << 16, 1<<16 + 130, api.MaxSize} {
		mustJudge(t, resize(t, l, 2, size), Claims)
	}
	for size := 64; size < 500; size += 64 {
		want := Claims
		if size == 192 {
			want = None
		}
		if f := resize(t, l, 0, size); want == Claims {
			mustJudge(t, f, want)
		} else {
			mustJudge(t, l, want)
		}
	}
}

// setSlot writes a slot.
func setSlot(t *testing.T, l []uint64, s int, x slot.Slot) {
	t.Helper()
	w, e := slot.Encode(x)
	if e != api.OK {
		t.Fatal(x)
	}
	l[slotAt(small(), s)] = w
}

// Chains that may not be, or that share: each is told, whatever stands in the bitmap.
func TestClaimsOfChains(t *testing.T) {
	base := image(t, dir(0, to("a", 1), to("b", 2)), doc(1, ""), doc(2, ""))
	own := slot.Slot{Start: 10, Count: 1, Next: -1}
	for k, c := range []struct {
		heads [2]int
		slots map[int]slot.Slot
		sizes [2]int
		want  Fault
	}{
		{[2]int{15, 16}, map[int]slot.Slot{15: own, 16: {Start: 11, Count: 1, Next: -1}}, [2]int{5, 5}, Bitmap},
		{[2]int{15, 16}, map[int]slot.Slot{15: {Start: 10, Count: 1, Next: 17}, 17: {Start: 12, Count: 1, Next: -1}, 16: {Start: 11, Count: 1, Next: -1}}, [2]int{65, 5}, Bitmap},
		{[2]int{15, 16}, map[int]slot.Slot{15: own, 16: own}, [2]int{5, 5}, Claims},                                                                                                  // one block is two's
		{[2]int{15, 15}, map[int]slot.Slot{15: own}, [2]int{5, 5}, Claims},                                                                                                           // one slot is
		{[2]int{15, 16}, map[int]slot.Slot{15: {Start: 9, Count: 2, Next: -1}, 16: own}, [2]int{128, 64}, Claims},                                                                    // the last block of one
		{[2]int{15, 16}, map[int]slot.Slot{15: own, 16: {Start: 9, Count: 3, Next: -1}}, [2]int{64, 192}, Claims},                                                                    // one in the midst
		{[2]int{15, 16}, map[int]slot.Slot{15: {Start: 10, Count: 1, Next: 17}, 16: {Start: 11, Count: 1, Next: 17}, 17: {Start: 12, Count: 1, Next: -1}}, [2]int{128, 128}, Claims}, // a slot behind two
		{[2]int{15, 16}, map[int]slot.Slot{15: {Start: 10, Count: 1, Next: 16}, 16: {Start: 11, Count: 1, Next: -1}}, [2]int{128, 64}, Claims},                                       // a chain within another one
		{[2]int{15, -1}, map[int]slot.Slot{15: {Start: 10, Count: 1, Next: 15}}, [2]int{128, 0}, Claims},                                                                             // to itself
		{[2]int{15, -1}, map[int]slot.Slot{15: {Start: 10, Count: 1, Next: 16}, 16: {Start: 10, Count: 1, Next: -1}}, [2]int{128, 0}, Claims},                                        // a block twice in one
		{[2]int{15, -1}, map[int]slot.Slot{15: {Start: 10, Count: 1, Next: 16}, 16: {Start: 11, Count: 1, Next: 15}}, [2]int{128, 0}, Claims},                                        // round
		{[2]int{15, -1}, map[int]slot.Slot{15: {Start: 19, Count: 1, Next: -1}}, [2]int{64, 0}, Bitmap},
		{[2]int{15, -1}, map[int]slot.Slot{15: {Start: 20, Count: 1, Next: -1}}, [2]int{64, 0}, Claims}, // no such block
		{[2]int{15, -1}, map[int]slot.Slot{15: {Start: 19, Count: 2, Next: -1}}, [2]int{128, 0}, Claims},
		{[2]int{15, -1}, map[int]slot.Slot{15: {Start: 10, Count: 1, Next: 20}}, [2]int{64, 0}, Claims}, // no such slot
		{[2]int{20, -1}, nil, [2]int{64, 0}, Claims},
	} {
		l := append([]uint64{}, base...)
		for s, x := range c.slots {
			setSlot(t, l, s, x)
		}
		for i := range 2 {
			lined(t, l, 1+i, inode.Inode{Kind: inode.File, Head: c.heads[i], Size: c.sizes[i]})
		}
		if !t.Run("", func(t *testing.T) { mustJudge(t, l, c.want) }) {
			t.Error(k)
		}
	}
}

// An inode that no name leads to claims all the same: it is told ahead of being an orphan.
func TestClaimsOfAnOrphan(t *testing.T) {
	l := image(t, dir(0), doc(3, "some"))
	mustJudge(t, l, Orphan)
	mustJudge(t, resize(t, l, 3, 65), Claims)
}

// A directory's line whose bytes would be no multiple of 64 is none's, however right its sum is.
func TestClaimsOfADirectoryOfOddBytes(t *testing.T) {
	for _, number := range []int{0, 3} {
		l, _ := shelf(t)
		for odd := 1; odd < 64; odd++ {
			line := l[16+8*number : 24+8*number]
			n := lineOf(t, l, number)
			first, is := pack.Pack(pack.Field{Width: 16, Value: uint64(n.Kind)}, pack.Field{Width: 16, Value: uint64(n.Head + 1)})
			if !is || first != line[0] {
				t.Fatal("another line", n)
			}
			copy(line, []uint64{first, uint64(n.Size - odd), 0, 0, 0, 0, 0})
			line[7] = uint64(crc.Words32(line[:7]...))
			mustJudge(t, l, Claims)
			lined(t, l, number, n)
		}
		mustJudge(t, l, None)
	}
}

// Inode 0 is free, or a file, with bytes that would be a folder's, or with none.
func TestRoot(t *testing.T) {
	for _, l := range [][]uint64{
		image(t),
		image(t, doc(1, "some")),
		image(t, dir(1)),
		image(t, dir(1, to("a", 2), to("b", 0)), doc(2, "some")),
		image(t, doc(0, "")),
		image(t, doc(0, "some")),
		image(t, doc(0, string(dir(0, to("a", 1)).bytes)), dir(1)),
		image(t, doc(0, ""), torn(1), dir(2, to("x", 9))),
	} {
		mustJudge(t, l, Root)
	}
	l, _ := laid(t, chance(3), geometry.Geometry{Blocks: 1, Inodes: 1, Size: 64})
	mustJudge(t, l, Root)
}
