package claim

import (
	"math"
	"slices"
	"testing"

	"cantle/geometry"
	"cantle/inode"
	"cantle/run"
)

// P17.1: Inode, Chain, Used, Blocks, Slots

func TestInodeAndChainOfNumbers(t *testing.T) {
	g := small()
	one, two := chained(1), file{number: 4, kind: inode.Dir}
	c := scanned(t, laid(t, g, full(t, g), one, two))
	if c.Inode(1) != (inode.Inode{Kind: inode.File, Head: 6, Size: 5 * 64}) || !sameChain(c.Chain(1), one.chain()) || c.Chain(1).Count() != 5 {
		t.Error(c.Inode(1), c.Chain(1))
	}
	if c.Inode(4) != (inode.Inode{Kind: inode.Dir, Head: -1}) {
		t.Error(c.Inode(4))
	}
	for _, i := range append(noneOf(5), 0, 2, 3) {
		if c.Inode(i) != inode.None() {
			t.Error(i, c.Inode(i))
		}
	}
	for _, i := range append(noneOf(5), 0, 2, 3, 4) {
		if l := c.Chain(i); len(l.Slots) != 0 || len(l.Parts) != 0 {
			t.Error(i, l)
		}
	}
}

func TestUsedIsRising(t *testing.T) {
	g := small()
	for _, numbers := range [][]int{nil, {0}, {4}, {2}, {0, 4}, {1, 3}, {0, 1, 2, 3}} {
		c := scanned(t, laid(t, g, blank(t, g), several(numbers...)...))
		if got := c.Used(); !slices.Equal(got, numbers) {
			t.Error(got, numbers)
		}
		falling := slices.Clone(numbers)
		slices.Reverse(falling)
		c = scanned(t, laid(t, g, blank(t, g), several(falling...)...))
		if got := c.Used(); !slices.Equal(got, numbers) {
			t.Error(got, numbers)
		}
	}
}

func TestBlocksAndSlotsAreAsManyAsThereAre(t *testing.T) {
	for _, g := range geometries() {
		f := filling(g.Size, 0, []int{g.Blocks - 1}, run.Run{Start: 0, Count: g.Blocks})
		c := scanned(t, laid(t, g, full(t, g), f))
		blocks, slots := c.Blocks(), c.Slots()
		if blocks.Len() != g.Blocks || blocks.Free() != 0 || slots.Len() != g.Blocks || slots.Count() != 1 || !slots.Has(g.Blocks-1) {
			t.Error(g, blocks.Len(), blocks.Free(), slots.Len(), slots.Count())
		}
	}
}

// P17.2: Owner

// Which one of its blocks a block is goes on over a part's end, in the order of the parts, not of the blocks.
func TestOwnerOverAPartsEnd(t *testing.T) {
	g := small()
	c := scanned(t, laid(t, g, full(t, g), chained(3), filling(64, 0, []int{0}, run.Run{Start: 5, Count: 3})))
	want := [][2]int{{3, 3}, {3, 4}, {-1, -1}, {3, 0}, {-1, -1}, {0, 0}, {0, 1}, {0, 2}, {3, 1}, {3, 2}, {-1, -1}, {-1, -1}}
	for b, o := range want {
		if i, k := c.Owner(b); i != o[0] || k != o[1] {
			t.Error(b, i, k, o)
		}
	}
	for _, b := range noneOf(12) {
		if i, k := c.Owner(b); i != -1 || k != -1 {
			t.Error(b, i, k)
		}
	}
}

// The block of an inode's place, and the place of that block, are the same.
func TestOwnerAndFindAreTheSame(t *testing.T) {
	r := chance(6)
	for range 300 {
		g := geometry.Geometry{Blocks: 1 + r.IntN(100), Inodes: 1 + r.IntN(20), Size: 64}
		c := scanned(t, laid(t, g, full(t, g), anyFiles(r, g)...))
		owned := 0
		for _, i := range c.Used() {
			for k, b := range c.Chain(i).Blocks() {
				if o, at := c.Owner(b); o != i || at != k || !c.Blocks().Has(b) {
					t.Fatal(b, o, at, i, k)
				}
				if _, found := c.Chain(i).Find(k); found != b {
					t.Fatal(found, b)
				}
				owned++
			}
		}
		if owned != c.Blocks().Count() {
			t.Fatal(owned, c.Blocks().Count())
		}
	}
}

// P17.2: Free, NextInode, NextSlots

func TestFreeIsWhatIsntUsed(t *testing.T) {
	r := chance(7)
	for range 300 {
		g := geometry.Geometry{Blocks: 1 + r.IntN(150), Inodes: 1 + r.IntN(80), Size: 64}
		c := scanned(t, laid(t, g, full(t, g), anyFiles(r, g)...))
		blocks, slots, inodes := c.Free()
		if blocks+c.Blocks().Count() != g.Blocks || slots+c.Slots().Count() != g.Blocks || inodes+len(c.Used()) != g.Inodes {
			t.Fatal(blocks, slots, inodes)
		}
		if blocks > slots || len(c.NextSlots(g.Blocks)) != slots || (c.NextInode() == -1) != (inodes == 0) {
			t.Fatal(blocks, slots, inodes, c.NextInode())
		}
	}
}

// As many slots as blocks are free, if each chain's slots have one block each; none are, if they have all.
func TestFreeAtItsEnds(t *testing.T) {
	g := geometry.Geometry{Blocks: 3, Inodes: 2, Size: 64}
	one := run.Run{Start: 1, Count: 1}
	for _, x := range []struct {
		files                 []file
		blocks, slots, inodes int
	}{
		{nil, 3, 3, 2},
		{[]file{{number: 1, kind: inode.File}}, 3, 3, 1},
		{[]file{filling(64, 0, []int{0}, one)}, 2, 2, 1},
		{[]file{filling(64, 0, []int{0, 2}, one, run.Run{Start: 0, Count: 1})}, 1, 1, 1},
		{[]file{filling(64, 0, []int{0, 2, 1}, one, run.Run{Start: 0, Count: 1}, run.Run{Start: 2, Count: 1})}, 0, 0, 1},
		{[]file{filling(64, 0, []int{0}, run.Run{Start: 1, Count: 2})}, 1, 2, 1},
		{[]file{filling(64, 0, []int{0}, run.Run{Start: 0, Count: 3}), {number: 1, kind: inode.Dir}}, 0, 2, 0},
	} {
		c := scanned(t, laid(t, g, full(t, g), x.files...))
		if blocks, slots, inodes := c.Free(); blocks != x.blocks || slots != x.slots || inodes != x.inodes {
			t.Error(x, blocks, slots, inodes)
		}
	}
}

func TestNextInodeOfEachKind(t *testing.T) {
	g := small()
	for _, x := range []struct {
		used []int
		want int
	}{
		{nil, 0}, {[]int{1, 2, 3, 4}, 0}, {[]int{4}, 0}, {[]int{0}, 1}, {[]int{0, 2}, 1}, {[]int{0, 1}, 2}, {[]int{0, 1, 3, 4}, 2}, {[]int{0, 1, 2, 3}, 4}, {[]int{0, 1, 2, 3, 4}, -1},
	} {
		var files []file
		for _, i := range x.used {
			files = append(files, file{number: i, kind: inode.Kind(1 + i%2)})
		}
		if got := scanned(t, laid(t, g, full(t, g), files...)).NextInode(); got != x.want {
			t.Error(x.used, got, x.want)
		}
	}
	g = geometry.Geometry{Blocks: 1, Inodes: 1, Size: 64}
	if got := scanned(t, laid(t, g, full(t, g), file{kind: inode.File})).NextInode(); got != -1 {
		t.Error(got)
	}
}

func TestNextSlotsOfEachNumber(t *testing.T) {
	g := small()
	c := scanned(t, laid(t, g, tempting(t, g), chained(2), filling(64, 0, []int{0}, run.Run{Start: 5, Count: 3})))
	free := []int{1, 3, 4, 5, 7, 8, 10, 11} // 0, 2, 6 and 9 are used
	for n := -3; n < 30; n++ {
		if got := c.NextSlots(n); !slices.Equal(got, free[:max(0, min(n, 8))]) {
			t.Error(n, got)
		}
	}
	for _, n := range []int{math.MaxInt, math.MaxInt - 1, math.MaxInt32, 1 << 32, 1<<32 + 1, 1 << 62, 65534, 65536} {
		if got := c.NextSlots(n); !slices.Equal(got, free) {
			t.Error(n, got)
		}
	}
	for _, n := range []int{math.MinInt, math.MinInt + 1, math.MinInt32, -1 << 32, 1 - 1<<32, -1 << 62, -65534, -65535} {
		if got := c.NextSlots(n); len(got) != 0 {
			t.Error(n, got)
		}
	}
}

func TestNextSlotsOfNoneFree(t *testing.T) {
	g := geometry.Geometry{Blocks: 2, Inodes: 1, Size: 64}
	c := scanned(t, laid(t, g, full(t, g), filling(64, 0, []int{1, 0}, run.Run{Start: 0, Count: 1}, run.Run{Start: 1, Count: 1})))
	for n := -1; n < 5; n++ {
		if got := c.NextSlots(n); len(got) != 0 {
			t.Error(n, got)
		}
	}
}

// Greatest volumes: what goes over all slots for each inode, or over all inodes for each block, or lists a block as often as a chain has it, doesn't end there.

// great is a geometry of as many of each as there may be.
func great() geometry.Geometry {
	return geometry.Geometry{Blocks: greatest, Inodes: greatest, Size: 64}
}

func TestGreatestVolumeOfOneBlockFiles(t *testing.T) {
	g, r := great(), chance(8)
	slots, blocks := r.Perm(greatest), r.Perm(greatest)
	var files []file
	for i := range greatest {
		files = append(files, filling(64, i, slots[i:i+1], run.Run{Start: blocks[i], Count: 1}))
	}
	l, want := laid(t, g, blank(t, g), files...), plainOf(g, files...)
	mustScan(t, l, want)
	l[slotAt(g, slots[greatest-1])] = wordOf(t, blocks[0], 1, -1)
	mustNotScan(t, l)
}

func TestGreatestVolumeOfOneFile(t *testing.T) {
	g, r := great(), chance(9)
	var runs []run.Run
	for _, b := range r.Perm(greatest) {
		runs = append(runs, run.Run{Start: b, Count: 1})
	}
	f := filling(64, greatest-1, r.Perm(greatest), runs...)
	mustScan(t, laid(t, g, blank(t, g), f), plainOf(g, f))
	f = filling(64, 0, []int{greatest - 1}, run.Run{Start: 0, Count: greatest})
	mustScan(t, laid(t, g, blank(t, g), f), plainOf(g, f))
}

// A chain's slots have all blocks each, again and again; and all inodes have one chain, or all of its slots as their heads.
func TestGreatestVolumesWithoutClaims(t *testing.T) {
	g := great()
	l := tempting(t, g)
	l[slotAt(g, greatest-1)] = wordOf(t, 0, greatest, -1)
	for _, size := range []int{1, 64 * greatest, 1 << 28} {
		copy(l[inodeAt(0):], lineOf(1, 0, size))
		mustNotScan(t, l)
	}
	for s := range greatest { // 2^22 blocks in all: as many as a file's size may need
		l[slotAt(g, s)] = wordOf(t, s%1000, 64+min(s/(greatest-128), 1), (s+2)%(greatest+1)-1)
	}
	copy(l[inodeAt(0):], lineOf(1, 0, 1<<28))
	mustNotScan(t, l)
	for s := range greatest {
		l[slotAt(g, s)] = wordOf(t, s, 1, (s+2)%(greatest+1)-1)
	}
	for i := range greatest {
		copy(l[inodeAt(i):], lineOf(1, 0, 64*greatest))
	}
	mustNotScan(t, l)
	for i := range greatest {
		copy(l[inodeAt(i):], lineOf(1, greatest-1-i, 64*(i+1)))
	}
	mustNotScan(t, l)
}
