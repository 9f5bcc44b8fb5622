package claim

import (
	"math/rand/v2"
	"slices"
	"testing"

	"cantle/api"
	"cantle/chain"
	"cantle/geometry"
	"cantle/inode"
	"cantle/pm"
	"cantle/run"
	"cantle/slot"
)

// mustScanFiles fails, unless a Scan of a device with these files answers them, whatever the device has beside them.
func mustScanFiles(t *testing.T, g geometry.Geometry, files ...file) {
	t.Helper()
	want := plainOf(g, files...)
	mustScan(t, laid(t, g, blank(t, g), files...), want)
	mustScan(t, laid(t, g, full(t, g), files...), want)
	mustScan(t, laid(t, g, tempting(t, g), files...), want)
}

// P17.1: Scan

// The chapter's example.
func TestScanOfFreeInodes(t *testing.T) {
	for _, g := range geometries() {
		mustScanFiles(t, g)
		c := scanned(t, blank(t, g))
		blocks, slots, inodes := c.Free()
		if c.NextInode() != 0 || len(c.Used()) != 0 || c.Blocks().Count() != 0 || blocks != g.Blocks || slots != g.Blocks || inodes != g.Inodes {
			t.Error(g, c.NextInode(), c.Used(), blocks, slots, inodes)
		}
	}
}

func TestScanOfOneInodeWithoutBlocks(t *testing.T) {
	for _, g := range geometries() {
		for _, i := range []int{0, g.Inodes / 2, g.Inodes - 1} {
			for _, k := range []inode.Kind{inode.File, inode.Dir} {
				mustScanFiles(t, g, file{number: i, kind: k})
			}
		}
	}
}

func TestScanOfOneInodeWithOneBlock(t *testing.T) {
	for _, g := range geometries() {
		for _, i := range []int{0, g.Inodes / 2, g.Inodes - 1} {
			for _, b := range []int{0, g.Blocks / 2, g.Blocks - 1} {
				f := filling(g.Size, i, []int{g.Blocks - 1 - b}, run.Run{Start: b, Count: 1})
				mustScanFiles(t, g, f)
				f.kind = inode.Dir
				mustScanFiles(t, g, f)
			}
		}
	}
}

func TestScanOfOneInodeWithSeveralSlots(t *testing.T) {
	g := small()
	for i := range g.Inodes {
		mustScanFiles(t, g, filling(64, i, []int{3, 1}, run.Run{Start: 8, Count: 2}, run.Run{Start: 2, Count: 3}))
		mustScanFiles(t, g, filling(64, i, []int{0, 11, 5}, run.Run{Start: 0, Count: 1}, run.Run{Start: 1, Count: 10}, run.Run{Start: 11, Count: 1}))
		mustScanFiles(t, g, filling(64, i, []int{11}, run.Run{Start: 0, Count: 12}))
	}
	slots, runs := chance(2).Perm(12), []run.Run{}
	for _, b := range chance(3).Perm(12) {
		runs = append(runs, run.Run{Start: b, Count: 1})
	}
	mustScanFiles(t, g, filling(64, 2, slots, runs...))
}

// several are files one behind the other, each with a block and a run, at these numbers.
func several(numbers ...int) []file {
	var files []file
	for k, i := range numbers {
		files = append(files, filling(64, i, []int{2 * k, 11 - k}, run.Run{Start: 3 * k, Count: 1}, run.Run{Start: 3*k + 1, Count: 1 + k%2}))
	}
	return files
}

func TestScanOfSeveral(t *testing.T) {
	g := small()
	for _, numbers := range [][]int{{0, 1}, {0, 4}, {3, 4}, {0, 1, 2}, {0, 2, 4}, {1, 2, 3}, {1, 3}, {0, 1, 3, 4}, {0, 1, 2, 3}, {1, 2, 3, 4}, {4, 2, 0, 1}} {
		mustScanFiles(t, g, several(numbers...)...)
	}
	files := several(0, 1, 3, 4)
	mustScanFiles(t, g, append(files, file{number: 2, kind: inode.Dir})...)
	files[1], files[2] = file{number: 1, kind: inode.File}, file{number: 3, kind: inode.Dir}
	mustScanFiles(t, g, files...)
}

// A chain has just as many blocks as its size needs: of each there are as many sizes as a block has bytes.
func TestScanOfEachSize(t *testing.T) {
	g := geometry.Geometry{Blocks: 4, Inodes: 2, Size: 64}
	for count := 1; count <= 4; count++ {
		f := filling(64, 1, []int{2}, run.Run{Start: 4 - count, Count: count})
		for size := 1; size <= 5*64; size++ {
			f.size = size
			l := laid(t, g, blank(t, g), f)
			if (count-1)*64 < size && size <= count*64 {
				mustScan(t, l, plainOf(g, f))
			} else {
				mustNotScan(t, l)
			}
		}
	}
}

func TestScanOfSizesAtABlocksEnds(t *testing.T) {
	for _, g := range geometries() {
		for count := 1; count <= min(g.Blocks, 5); count++ {
			for size, is := range map[int]bool{
				(count-1)*g.Size - 1: false, (count - 1) * g.Size: false, (count-1)*g.Size + 1: true, count*g.Size - 1: true, count * g.Size: true,
				count*g.Size + 1: false, (count + 1) * g.Size: false, 1 << 20: false, api.MaxSize: false,
			} {
				if size < 1 {
					continue
				}
				f := filling(g.Size, g.Inodes-1, []int{0}, run.Run{Start: 0, Count: count})
				f.size = size
				l := laid(t, g, full(t, g), f)
				if is {
					mustScan(t, l, plainOf(g, f))
				} else {
					mustNotScan(t, l)
				}
			}
		}
	}
}

// What is counted are the blocks of all slots together.
func TestScanOfSizesOfSeveralSlots(t *testing.T) {
	g := small()
	f := filling(64, 0, []int{4, 0, 2}, run.Run{Start: 9, Count: 2}, run.Run{Start: 1, Count: 1}, run.Run{Start: 4, Count: 3})
	for size, is := range map[int]bool{64: false, 128: false, 129: false, 192: false, 5 * 64: false, 5*64 + 1: true, 6 * 64: true, 6*64 + 1: false, 7 * 64: false} {
		f.size = size
		if l := laid(t, g, full(t, g), f); is {
			mustScan(t, l, plainOf(g, f))
		} else {
			mustNotScan(t, l)
		}
	}
}

// What isn't asked may be anything: each word of the record, of the bitmap, of blocks, of slots that no chain has.
func TestWhatNoChainHasMayBeAnything(t *testing.T) {
	g := small()
	files := several(0, 3, 1)
	want, l := plainOf(g, files...), laid(t, g, blank(t, g), files...)
	used, _ := want.slots()
	words := []uint64{1, ^uint64(0), 1 << 63, wordOf(t, 0, 12, 0), wordOf(t, 0, 1, 1), wordOf(t, 3, 1, -1), wordOf(t, 30, 1, 40)}
	for w := 8; w < len(l); w++ {
		s := w - slotAt(g, 0)
		if w >= inodeAt(0) && w < inodeAt(g.Inodes) || s >= 0 && s < g.Blocks && used.Has(s) {
			continue
		}
		for _, x := range words {
			other := slices.Clone(l)
			other[w] = x
			mustScan(t, other, want)
		}
	}
}

// The bitmap tells nothing of what is free, be it as it should be, none, all, or just the wrong way round.
func TestTheBitmapTellsNothing(t *testing.T) {
	g := small()
	files := several(1, 2, 4)
	want := plainOf(g, files...)
	l := laid(t, g, blank(t, g), files...)
	right := scanned(t, l).Blocks().Words()[0]
	at := slotAt(g, 0) + 16 // 12 slots, and 4 words that fill their line
	for _, x := range []uint64{0, right, ^right, ^right & 0xfff, 0xfff, ^uint64(0), 1, right &^ (right - 1), right ^ 1<<11} {
		l[at] = x
		mustScan(t, l, want)
	}
	v := opened(t, pm.Of(laid(t, g, blank(t, g), files...)))
	m := scanned(t, l).Blocks()
	m.Put(11)
	m.Drop(0)
	if _, e := v.SetBitmap(m); e != api.OK {
		t.Fatal(e)
	}
	c, e := Scan(v)
	if e != api.OK {
		t.Fatal(e)
	}
	mustTell(t, c, want)
}

// Bytes and names don't matter: a Dir's blocks aren't asked for entries, nor is inode 0 for what it is.
func TestWhatIsInBlocksDoesntMatter(t *testing.T) {
	g := small()
	f := filling(64, 0, []int{1}, run.Run{Start: 3, Count: 4})
	d := filling(64, 4, []int{0}, run.Run{Start: 7, Count: 2})
	d.kind = inode.Dir
	mustScanFiles(t, g, f, d)
}

// What is scanned is what is seen, not what lasts.
func TestScanOfWhatIsSeen(t *testing.T) {
	g := small()
	one := filling(64, 1, []int{2}, run.Run{Start: 5, Count: 2})
	two := filling(64, 3, []int{2, 7}, run.Run{Start: 0, Count: 1}, run.Run{Start: 6, Count: 1})
	d := pm.Of(laid(t, g, blank(t, g), one))
	l := laid(t, g, blank(t, g), two)
	for w := 8; w < len(l); w++ {
		d.Store(w, l[w])
	}
	steps := d.Steps()
	for k := range 2 {
		c, e := Scan(opened(t, d))
		if e != api.OK {
			t.Fatal(e)
		}
		mustTell(t, c, plainOf(g, []file{two, one}[k]))
		if d.Steps() != steps {
			t.Fatal(d.Steps(), steps)
		}
		d.Crash()
	}
}

// Scan goes by the volume's own geometry.
func TestScanOfAllGeometries(t *testing.T) {
	r := chance(4)
	for _, g := range geometries() {
		for range 20 {
			files := anyFiles(r, g)
			mustScan(t, laid(t, g, full(t, g), files...), plainOf(g, files...))
		}
	}
}

// anyFiles are files by chance, each of blocks and slots that no other one has.
func anyFiles(r *rand.Rand, g geometry.Geometry) []file {
	slots, blocks := r.Perm(g.Blocks), r.Perm(g.Blocks)
	if r.IntN(2) == 0 { // in stretches
		slices.Sort(blocks)
	}
	var files []file
	for _, i := range r.Perm(g.Inodes)[:r.IntN(g.Inodes+1)] {
		f := file{number: i, kind: inode.File}
		count := 0
		for range r.IntN(4) {
			n := stretch(blocks, 1+r.IntN(3))
			if n == 0 {
				break
			}
			f.slots, f.runs = append(f.slots, slots[0]), append(f.runs, run.Run{Start: blocks[0], Count: n})
			slots, blocks, count = slots[1:], blocks[n:], count+n
		}
		if count > 0 {
			f.size = count*g.Size - r.IntN(g.Size)
			if r.IntN(3) == 0 {
				f.kind, f.size = inode.Dir, count*g.Size
			}
		}
		files = append(files, f)
	}
	return files
}

// stretch is how many of the first blocks, so many at most, are one behind the other.
func stretch(blocks []int, most int) int {
	n := 0
	for n < min(most, len(blocks)) && blocks[n] == blocks[0]+n {
		n++
	}
	return n
}

// TestScanOfEverySmallOne asks all devices of two blocks and two inodes whose words are of these kinds.
func TestScanOfEverySmallOne(t *testing.T) {
	g := geometry.Geometry{Blocks: 2, Inodes: 2, Size: 64}
	lines := [][]uint64{make([]uint64, 8), lineOf(1, -1, 0), lineOf(2, -1, 0), lineOf(1, 0, 0), lineOf(2, 0, 65), {7, 0, 0, 0, 0, 0, 0, 0}}
	for head := range 3 {
		for _, size := range []int{1, 64, 65, 128, 129} {
			lines = append(lines, lineOf(1, head, size))
		}
	}
	words := []uint64{5}
	for _, r := range []run.Run{{Start: 0, Count: 1}, {Start: 0, Count: 2}, {Start: 1, Count: 1}, {Start: 1, Count: 2}} {
		for next := -1; next < 3; next++ {
			words = append(words, wordOf(t, r.Start, r.Count, next))
		}
	}
	counts := map[bool]int{}
	l := blank(t, g)
	for _, a := range lines {
		copy(l[inodeAt(0):], a)
		for _, b := range lines {
			copy(l[inodeAt(1):], b)
			for _, x := range words {
				l[slotAt(g, 0)] = x
				for _, y := range words {
					l[slotAt(g, 1)] = y
					counts[mustBeAsPlain(t, g, l)]++
				}
			}
		}
	}
	if counts[true] < 2000 || counts[false] < 2000 {
		t.Error("too few of one kind", counts)
	}
}

// mustBeAsPlain fails, unless a Scan of words is as their plain reading: whether there are claims.
func mustBeAsPlain(t *testing.T, g geometry.Geometry, l []uint64) bool {
	t.Helper()
	want, is := plainly(g, l)
	c, e := Scan(opened(t, pm.Of(l)))
	if !is {
		if c != nil || e != api.ErrForm {
			t.Fatalf("%v, %d, of %x", c, e, l[16:])
		}
		return false
	}
	if c == nil || e != api.OK {
		t.Fatalf("%v, %d, of %x", c, e, l[16:])
	}
	mustTell(t, c, want)
	return true
}

// TestScanOfAnyWords asks devices with files by chance, of which some words are others then.
func TestScanOfAnyWords(t *testing.T) {
	r := chance(5)
	counts := map[bool]int{}
	for range 6000 {
		g := geometry.Geometry{Blocks: 1 + r.IntN(20), Inodes: 1 + r.IntN(6), Size: 64 << r.IntN(3)}
		l := laid(t, g, blank(t, g), anyFiles(r, g)...)
		for range r.IntN(4) {
			damage(t, r, g, l)
		}
		counts[mustBeAsPlain(t, g, l)]++
	}
	if counts[true] < 1000 || counts[false] < 1000 {
		t.Error("too few of one kind", counts)
	}
}

// damage makes one of the inodes or the slots, or one of their bits, another one.
func damage(t *testing.T, r *rand.Rand, g geometry.Geometry, l []uint64) {
	t.Helper()
	i, s := r.IntN(g.Inodes), r.IntN(g.Blocks)
	start := r.IntN(g.Blocks)
	switch r.IntN(6) {
	case 0:
		l[inodeAt(i)+r.IntN(8)] ^= 1 << r.IntN(64)
	case 1:
		l[slotAt(g, s)] ^= 1 << r.IntN(64)
	case 2:
		l[slotAt(g, s)] = wordOf(t, start, 1+r.IntN(g.Blocks-start), r.IntN(g.Blocks+2)-1)
	case 3:
		copy(l[inodeAt(i):], lineOf(1, s, 1+r.IntN(3*g.Size)))
	case 4:
		copy(l[inodeAt(i):inodeAt(i+1)], make([]uint64, 8))
	case 5:
		copy(l[inodeAt(i):inodeAt(i+1)], l[inodeAt(r.IntN(g.Inodes)):])
	}
}

func TestScanByHand(t *testing.T) {
	g := geometry.Geometry{Blocks: 8, Inodes: 3, Size: 64}
	v := opened(t, pm.Of(blank(t, g)))
	chain.Write(v, []int{1, 4}, run.Run{Start: 2, Count: 1}, run.Run{Start: 5, Count: 2})
	v.SetInode(1, inode.Inode{Kind: inode.File, Head: 1, Size: 130})
	c, e := Scan(v)
	if e != api.OK {
		t.Fatal(e)
	}
	l := c.Chain(1)
	if len(l.Slots) != 2 || l.Slots[0] != 1 || l.Slots[1] != 4 || l.Parts[0] != (slot.Slot{Start: 2, Count: 1, Next: 4}) || l.Parts[1] != (slot.Slot{Start: 5, Count: 2, Next: -1}) {
		t.Error(l)
	}
	if c.Inode(1) != (inode.Inode{Kind: inode.File, Head: 1, Size: 130}) || c.Inode(0) != (inode.Inode{Kind: inode.Free, Head: -1}) || c.NextInode() != 0 {
		t.Error(c.Inode(1), c.Inode(0), c.NextInode())
	}
	if w := c.Blocks().Words(); len(w) != 1 || w[0] != 1<<2|1<<5|1<<6 {
		t.Error(w)
	}
	if w := c.Slots().Words(); len(w) != 1 || w[0] != 1<<1|1<<4 {
		t.Error(w)
	}
	for b, want := range [][2]int{{-1, -1}, {-1, -1}, {1, 0}, {-1, -1}, {-1, -1}, {1, 1}, {1, 2}, {-1, -1}} {
		if i, k := c.Owner(b); i != want[0] || k != want[1] {
			t.Error(b, i, k)
		}
	}
	if b, s, n := c.Free(); b != 5 || s != 6 || n != 2 {
		t.Error(b, s, n)
	}
	if l := c.NextSlots(4); !slices.Equal(l, []int{0, 2, 3, 5}) {
		t.Error(l)
	}
}
