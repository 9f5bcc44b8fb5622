package claim

import (
	"slices"
	"testing"

	"cantle/geometry"
	"cantle/inode"
	"cantle/run"
)

// mustMind fails, unless words have claims, and have none with other words, from one on.
func mustMind(t *testing.T, g geometry.Geometry, l []uint64, at int, others ...uint64) {
	t.Helper()
	if _, is := plainly(g, l); !is {
		t.Fatal("there should be claims")
	}
	scanned(t, l)
	l = slices.Clone(l)
	copy(l[at:], others)
	mustNotScan(t, l)
}

// P17.1: there are none

func TestAnInodesWordsThatAreNones(t *testing.T) {
	g := small()
	l := laid(t, g, blank(t, g), several(1, 3)...)
	for i := range g.Inodes { // 1 and 3 are used, 0, 2 and 4 free
		for w := inodeAt(i); w < inodeAt(i+1); w++ {
			for bit := range 64 {
				mustMind(t, g, l, w, l[w]^1<<bit)
			}
			mustMind(t, g, l, w, l[w]+1)
			mustMind(t, g, l, w, ^l[w])
		}
	}
}

// Lines with the right sum of inodes that may not be: another kind, a free one with more than that, a Head without bytes, bytes without a Head, too many of them, a Dir's that are no entries.
func TestAnInodeThatMayNotBe(t *testing.T) {
	g := small()
	f := filling(64, 2, []int{1}, run.Run{Start: 4, Count: 1})
	l := laid(t, g, blank(t, g), f)
	for _, line := range [][]uint64{
		lineOf(3, 1, 64), lineOf(4, -1, 0), lineOf(257, 1, 64), lineOf(65535, 1, 64), lineOf(0, -1, 0), lineOf(0, 1, 64), lineOf(0, 1, 0), lineOf(0, -1, 64),
		lineOf(1, 1, 0), lineOf(2, 1, 0), lineOf(1, -1, 1), lineOf(1, -1, 64), lineOf(2, -1, 64), lineOf(1, 1, 1<<28+1), lineOf(1, 1, 1<<32+64), lineOf(1, 1, -1), lineOf(1, 1, -64),
		lineOf(2, 1, 1), lineOf(2, 1, 63), lineOf(1, 65534, 64),
	} {
		mustMind(t, g, l, inodeAt(2), line...)
		mustMind(t, g, l, inodeAt(0), line...)
		mustMind(t, g, l, inodeAt(4), line...)
	}
	// But these two lines may be.
	for _, line := range [][]uint64{lineOf(1, 1, 64), lineOf(2, 1, 64)} {
		copy(l[inodeAt(2):], line)
		scanned(t, l)
	}
}

func TestAHeadThatIsNoSlots(t *testing.T) {
	for _, g := range geometries() {
		l := laid(t, g, tempting(t, g), filling(g.Size, 0, []int{g.Blocks - 1}, run.Run{Start: 0, Count: 1}))
		for _, head := range []int{g.Blocks, g.Blocks + 1, g.Blocks + 7, 2 * g.Blocks, g.Blocks + 256, 65532, 65533} {
			mustMind(t, g, l, inodeAt(0), lineOf(1, head, g.Size)...)
		}
	}
	// Nor of a word that fills the slots' line, whatever it is.
	g := geometry.Geometry{Blocks: 3, Inodes: 2, Size: 64}
	l := laid(t, g, blank(t, g), filling(64, 1, []int{2}, run.Run{Start: 0, Count: 1}))
	for s := 3; s < 8; s++ {
		l[slotAt(g, s)] = wordOf(t, 0, 1, -1)
	}
	for s := 3; s < 8; s++ {
		mustMind(t, g, l, inodeAt(1), lineOf(1, s, 1)...)
		mustMind(t, g, l, slotAt(g, 2), wordOf(t, 1, 1, s))
	}
}

// chained is a file of three slots, and so many blocks of 64 bytes.
func chained(number int) file {
	return filling(64, number, []int{6, 2, 9}, run.Run{Start: 3, Count: 1}, run.Run{Start: 8, Count: 2}, run.Run{Start: 0, Count: 2})
}

func TestASlotsWordThatIsNones(t *testing.T) {
	g := small()
	for _, i := range []int{0, 2, 4} {
		l := laid(t, g, blank(t, g), chained(i))
		for _, s := range []int{6, 2, 9} {
			at := slotAt(g, s)
			for bit := range 64 {
				mustMind(t, g, l, at, l[at]^1<<bit)
			}
			for _, x := range []uint64{0, 1, ^l[at], l[at] + 1<<48, ^uint64(0)} {
				mustMind(t, g, l, at, x)
			}
		}
	}
}

func TestBlocksThatThereArent(t *testing.T) {
	g := small()
	f := filling(64, 3, []int{5, 1}, run.Run{Start: 9, Count: 3}, run.Run{Start: 0, Count: 3})
	l := laid(t, g, blank(t, g), f)
	for _, start := range []int{10, 11, 12, 13, 64, 65, 32768, 65531} { // 3 blocks from 9 on are the last ones
		mustMind(t, g, l, slotAt(g, 5), wordOf(t, start, 3, 1))
		mustMind(t, g, l, slotAt(g, 1), wordOf(t, start, 3, -1))
	}
	// As many blocks as its size needs, but for one that there isn't.
	for count := 1; count <= 12; count++ {
		f := filling(64, 0, []int{0}, run.Run{Start: 12 - count, Count: count})
		l := laid(t, g, blank(t, g), f)
		mustMind(t, g, l, slotAt(g, 0), wordOf(t, 13-count, count, -1))
	}
	for _, g := range geometries() {
		f := filling(g.Size, g.Inodes-1, []int{0}, run.Run{Start: 0, Count: g.Blocks})
		l := laid(t, g, full(t, g), f)
		f.runs[0].Count++
		f.size += g.Size
		mustMind(t, g, l, 0, laid(t, g, l, f)...)
	}
}

// A chain's last slot goes on to one of its own, and its size needs as many blocks as its slots have, or many more.
func TestAChainThatComesBack(t *testing.T) {
	g := small()
	for _, i := range []int{0, 2, 4} {
		l := laid(t, g, blank(t, g), chained(i))
		for _, back := range []int{6, 2, 9} {
			mustMind(t, g, l, slotAt(g, 9), wordOf(t, 0, 2, back))
			for _, size := range []int{6 * 64, 7 * 64, 10 * 64, 60 * 64, 1 << 28} {
				other := laid(t, g, l)
				other[slotAt(g, 9)] = wordOf(t, 0, 2, back)
				copy(other[inodeAt(i):], lineOf(1, 6, size))
				mustNotScan(t, other)
			}
		}
		mustMind(t, g, l, slotAt(g, 6), wordOf(t, 3, 1, 6))
		mustMind(t, g, l, slotAt(g, 2), wordOf(t, 8, 2, 6))
		mustMind(t, g, l, slotAt(g, 2), wordOf(t, 8, 2, 2))
	}
}

// A Next that goes on, or ends, elsewhere: there are other blocks than its size needs.
func TestAChainThatGoesElsewhere(t *testing.T) {
	g := small()
	l := laid(t, g, blank(t, g), chained(1))
	l[slotAt(g, 4)] = wordOf(t, 11, 1, -1)
	mustMind(t, g, l, slotAt(g, 9), wordOf(t, 0, 2, 4))
	mustMind(t, g, l, slotAt(g, 2), wordOf(t, 8, 2, -1))
	mustMind(t, g, l, slotAt(g, 9), wordOf(t, 0, 2, 12))
	mustMind(t, g, l, slotAt(g, 9), wordOf(t, 0, 2, 65533))
	mustMind(t, g, l, inodeAt(1), lineOf(1, 2, 5*64)...)
	mustMind(t, g, l, inodeAt(1), lineOf(1, -1, 0)[0])
	// But where just as many are elsewhere it may.
	l[slotAt(g, 9)] = wordOf(t, 0, 1, 4)
	scanned(t, l)
}

// TestBlocksInTwoRuns asks all pairs of runs of six blocks: of one chain, and of two. There are claims just if they have no block in common.
func TestBlocksInTwoRuns(t *testing.T) {
	g := geometry.Geometry{Blocks: 6, Inodes: 3, Size: 64}
	var runs []run.Run
	for start := range 6 {
		for count := 1; count <= 6-start; count++ {
			runs = append(runs, run.Run{Start: start, Count: count})
		}
	}
	for _, a := range runs {
		for _, b := range runs {
			apart := a.Start+a.Count <= b.Start || b.Start+b.Count <= a.Start
			for _, files := range [][]file{
				{filling(64, 1, []int{4, 2}, a, b)},
				{filling(64, 0, []int{1}, a), filling(64, 1, []int{0}, b)},
				{filling(64, 2, []int{5}, a), filling(64, 0, []int{3}, b)},
			} {
				l := laid(t, g, full(t, g), files...)
				if apart {
					mustScan(t, l, plainOf(g, files...))
				} else {
					mustNotScan(t, l)
				}
			}
		}
	}
}

// One block alone is in two of several runs, each pair of them in turn: within a chain, and over two.
func TestOneBlockTwiceOfSeveralRuns(t *testing.T) {
	g := geometry.Geometry{Blocks: 40, Inodes: 4, Size: 128}
	begin := func() []file {
		one := filling(128, 1, []int{9, 3, 20}, run.Run{Start: 0, Count: 4}, run.Run{Start: 10, Count: 4}, run.Run{Start: 20, Count: 4})
		two := filling(128, 2, []int{8, 0, 39}, run.Run{Start: 5, Count: 4}, run.Run{Start: 15, Count: 4}, run.Run{Start: 30, Count: 4})
		return []file{one, two}
	}
	mustScanFiles(t, g, begin()...)
	for a := range 6 {
		for b := range 6 {
			if a == b {
				continue
			}
			for _, shift := range []int{-3, -2, 0, 1, 3} {
				files := begin()
				to := files[b/3].runs[b%3].Start
				if to+shift < 0 {
					continue
				}
				files[a/3].runs[a%3].Start = to + shift
				mustNotScan(t, laid(t, g, full(t, g), files...))
			}
		}
	}
}

// Two chains have one slot: both from their heads on, one from its head and the other one further behind, and both further behind; be their sizes as they need, or not.
func TestOneSlotInTwoChains(t *testing.T) {
	g := small()
	l := laid(t, g, blank(t, g), chained(1))
	for k, head := range []int{6, 2, 9} {
		rest := []int{5, 4, 2}[k]
		for _, i := range []int{0, 2, 4} {
			mustMind(t, g, l, inodeAt(i), lineOf(1, head, rest*64)...)
			mustMind(t, g, l, inodeAt(i), lineOf(2, head, rest*64)...)
			mustMind(t, g, l, inodeAt(i), lineOf(1, head, 64)...)
			// Slot 11 is the head of another chain, that goes on there.
			other := laid(t, g, l)
			other[slotAt(g, 11)] = wordOf(t, 11, 1, head)
			mustMind(t, g, other, inodeAt(i), lineOf(1, 11, (1+rest)*64)...)
			mustMind(t, g, other, inodeAt(i), lineOf(1, 11, 64)...)
			other[slotAt(g, 11)] = wordOf(t, 11, 1, -1)
			copy(other[inodeAt(i):], lineOf(1, 11, 64))
			scanned(t, other)
		}
	}
}

// Of several inodes one alone has what may not be, and where that is doesn't matter.
func TestOneOfSeveralAlone(t *testing.T) {
	g := small()
	all := []int{0, 1, 2, 3}
	for k := range all {
		files := several(all...)
		files[k].size++
		mustNotScan(t, laid(t, g, blank(t, g), files...))
		files[k].size -= 1 + 64
		mustNotScan(t, laid(t, g, blank(t, g), files...))
		files = several(all...)
		files[k].runs[0].Start = files[(k+1)%4].runs[1].Start
		mustNotScan(t, laid(t, g, blank(t, g), files...))
		files = several(all...)
		l := laid(t, g, blank(t, g), files...)
		l[slotAt(g, files[k].slots[1])] = 0
		mustNotScan(t, l)
	}
}

// The inode behind the last one is none: whatever stands there.
func TestOnlySoManyInodesAreAsked(t *testing.T) {
	g := geometry.Geometry{Blocks: 9, Inodes: 2, Size: 64}
	l := laid(t, g, blank(t, g), filling(64, 1, []int{8}, run.Run{Start: 0, Count: 1}))
	copy(l[inodeAt(2):], lineOf(int(inode.File), 8, 64)) // slots' words 0 to 7
	mustScan(t, l, plainOf(g, filling(64, 1, []int{8}, run.Run{Start: 0, Count: 1})))
}
