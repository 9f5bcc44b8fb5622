package claim

import (
	"math"
	"math/rand/v2"
	"slices"
	"testing"

	"cantle/api"
	"cantle/bitmap"
	"cantle/chain"
	"cantle/crc"
	"cantle/geometry"
	"cantle/inode"
	"cantle/pm"
	"cantle/run"
	"cantle/slot"
	"cantle/super"
	"cantle/volume"
)

// chance is a source of many numbers, always the same ones.
func chance(seed uint64) *rand.Rand { return rand.New(rand.NewPCG(seed, 17)) }

// greatest is as many blocks, and as many inodes, as there may be.
const greatest = 65534

// small is the geometry of most devices here.
func small() geometry.Geometry { return geometry.Geometry{Blocks: 12, Inodes: 5, Size: 64} }

// geometries are some of all kinds: at their ends, with parts of a line, just a line, and more.
func geometries() []geometry.Geometry {
	l := []geometry.Geometry{
		{Blocks: 1, Inodes: 1, Size: 64}, {Blocks: 1, Inodes: 9, Size: 4096}, {Blocks: 7, Inodes: 2, Size: 128}, {Blocks: 8, Inodes: 3, Size: 256}, {Blocks: 9, Inodes: 4, Size: 512},
		{Blocks: 64, Inodes: 64, Size: 1024}, {Blocks: 65, Inodes: 65, Size: 2048}, {Blocks: 200, Inodes: 1, Size: 64}, {Blocks: 3, Inodes: 500, Size: 64},
	}
	return append(l, small())
}

// inodeAt and slotAt are the first word of an inode, and a slot's word: they stand behind the superblock and the record, a line each.
func inodeAt(i int) int { return 16 + 8*i }

func slotAt(g geometry.Geometry, s int) int { return 16 + 8*g.Inodes + s }

// file is an inode that isn't free, as it is laid: its number, what it is, how many bytes it has, and its chain.
type file struct {
	number int
	kind   inode.Kind
	size   int
	slots  []int
	runs   []run.Run
}

// inode is its line's.
func (f file) inode() inode.Inode {
	head := -1
	if len(f.slots) > 0 {
		head = f.slots[0]
	}
	return inode.Inode{Kind: f.kind, Head: head, Size: f.size}
}

// chain is its slots, each with its run and the next one's number.
func (f file) chain() chain.Chain {
	c := chain.Chain{Slots: slices.Clone(f.slots)}
	for k, r := range f.runs {
		next := -1
		if k+1 < len(f.slots) {
			next = f.slots[k+1]
		}
		c.Parts = append(c.Parts, slot.Slot{Start: r.Start, Count: r.Count, Next: next})
	}
	return c
}

// filling is a File that fills its blocks, each of so many bytes.
func filling(size, number int, slots []int, runs ...run.Run) file {
	return file{number: number, kind: inode.File, size: size * run.Total(runs...), slots: slots, runs: runs}
}

// blank are a device's words of which all behind the superblock are noughts: its inodes are free.
func blank(t *testing.T, g geometry.Geometry) []uint64 {
	t.Helper()
	l, e := super.Encode(g)
	if e != api.OK {
		t.Fatal(g, e)
	}
	return append(l, make([]uint64, g.Words()-8)...)
}

// full are words of a device whose inodes are free, and of which all others behind the superblock are anything.
func full(t *testing.T, g geometry.Geometry) []uint64 {
	t.Helper()
	r := chance(1)
	l := blank(t, g)
	for w := range l {
		if w >= 8 && w < inodeAt(0) || w >= inodeAt(g.Inodes) {
			l[w] = r.Uint64()
		}
	}
	return l
}

// tempting are words of a device whose inodes are free, and whose slots all have the word of one that has all blocks, and goes on at the slot behind it.
func tempting(t *testing.T, g geometry.Geometry) []uint64 {
	t.Helper()
	l := full(t, g)
	for s := range g.Blocks {
		l[slotAt(g, s)] = wordOf(t, 0, g.Blocks, (s+1)%g.Blocks)
	}
	return l
}

// wordOf is a slot's word.
func wordOf(t *testing.T, start, count, next int) uint64 {
	t.Helper()
	x, e := slot.Encode(slot.Slot{Start: start, Count: count, Next: next})
	if e != api.OK {
		t.Fatalf("%d, %d, %d: %d", start, count, next, e)
	}
	return x
}

// lineOf is the line that an inode of any numbers would have, may it be or not.
func lineOf(kind, head, size int) []uint64 {
	l := []uint64{uint64(kind) + uint64(head+1)<<16, uint64(size), 0, 0, 0, 0, 0}
	return append(l, uint64(crc.Words32(l...)))
}

// laid are words with these files.
func laid(t *testing.T, g geometry.Geometry, l []uint64, files ...file) []uint64 {
	t.Helper()
	l = slices.Clone(l)
	for _, f := range files {
		n := f.inode()
		copy(l[inodeAt(f.number):], lineOf(int(n.Kind), n.Head, n.Size))
		for k, p := range f.chain().Parts {
			l[slotAt(g, f.slots[k])] = wordOf(t, p.Start, p.Count, p.Next)
		}
	}
	return l
}

// opened is the volume of a device that has one.
func opened(t *testing.T, d *pm.Device) *volume.Volume {
	t.Helper()
	v, e := volume.Open(d)
	if e != api.OK || v == nil {
		t.Fatalf("Open of %d words: %v, %d", d.Len(), v, e)
	}
	return v
}

// scanned are the claims of a device that has some.
func scanned(t *testing.T, l []uint64) *Claim {
	t.Helper()
	c, e := Scan(opened(t, pm.Of(l)))
	if e != api.OK || c == nil {
		t.Fatalf("%v, %d", c, e)
	}
	return c
}

// plain is claims by their meaning: each inode, and its chain.
type plain struct {
	geometry geometry.Geometry
	nodes    []inode.Inode
	chains   []chain.Chain
}

// without are the claims of a volume whose inodes are free.
func without(g geometry.Geometry) plain {
	return plain{g, slices.Repeat([]inode.Inode{{Kind: inode.Free, Head: -1}}, g.Inodes), make([]chain.Chain, g.Inodes)}
}

// plainOf are those of a volume with these files.
func plainOf(g geometry.Geometry, files ...file) plain {
	p := without(g)
	for _, f := range files {
		p.nodes[f.number], p.chains[f.number] = f.inode(), f.chain()
	}
	return p
}

// plainly reads claims from words, slot by slot and block by block, with lists of all that was met; a false says that there are none.
func plainly(g geometry.Geometry, l []uint64) (plain, bool) {
	p := without(g)
	slots, blocks := map[int]bool{}, map[int]bool{}
	for i := range g.Inodes {
		n, e := inode.Decode(l[inodeAt(i):inodeAt(i+1)]...)
		if e != api.OK {
			return plain{}, false
		}
		c, has := chain.Chain{}, 0
		for s := n.Head; s != -1; s = c.Parts[len(c.Parts)-1].Next {
			if s >= g.Blocks || slots[s] {
				return plain{}, false
			}
			slots[s] = true
			x, e := slot.Decode(l[slotAt(g, s)])
			if e != api.OK {
				return plain{}, false
			}
			for b := x.Start; b < x.Start+x.Count; b++ {
				if b >= g.Blocks || blocks[b] {
					return plain{}, false
				}
				blocks[b] = true
				has++
			}
			c.Slots, c.Parts = append(c.Slots, s), append(c.Parts, x)
		}
		if has*g.Size < n.Size || has > 0 && (has-1)*g.Size >= n.Size {
			return plain{}, false
		}
		p.nodes[i], p.chains[i] = n, c
	}
	return p, true
}

// owners are of each block that is some chain's whose it is, and which one.
func (p plain) owners() map[int][2]int {
	owners := map[int][2]int{}
	for i, c := range p.chains {
		k := 0
		for _, x := range c.Parts {
			for b := x.Start; b < x.Start+x.Count; b++ {
				owners[b] = [2]int{i, k}
				k++
			}
		}
	}
	return owners
}

// used are the inodes that aren't free.
func (p plain) used() []int {
	var used []int
	for i, n := range p.nodes {
		if n.Kind != inode.Free {
			used = append(used, i)
		}
	}
	return used
}

// slots are a map of those that are some chain's, and free are those that aren't, rising.
func (p plain) slots() (m *bitmap.Map, free []int) {
	m = bitmap.New(p.geometry.Blocks)
	for _, c := range p.chains {
		m.Put(c.Slots...)
	}
	for s := range p.geometry.Blocks {
		if !m.Has(s) {
			free = append(free, s)
		}
	}
	return m, free
}

// noneOf are numbers that none of so many things has: near to theirs, as far as an int may be, and such that would be one by their low bits.
func noneOf(count int) []int {
	return []int{
		-1, -2, -8, -count, -1 - count, -65534, -65535, -65536, count, count + 1, 2 * count, 65534, 65535, 65536, 65534 + count, 1 << 20, math.MaxInt, math.MaxInt - 1,
		math.MinInt, math.MinInt + 1, math.MaxInt32, math.MinInt32, 1 << 32, 1<<32 + count - 1, -1 << 32, 1<<32 - 1, 1 << 48, 1 << 62, -1 << 62,
	}
}

// sameChain tells whether two chains are the same.
func sameChain(a, b chain.Chain) bool {
	return slices.Equal(a.Slots, b.Slots) && slices.Equal(a.Parts, b.Parts)
}

// short is a list as it is told in a fault: not all of a great one.
func short[T any](l []T) []T { return l[:min(12, len(l))] }

// mustTell fails, unless claims tell just what they should.
func mustTell(t *testing.T, c *Claim, want plain) {
	t.Helper()
	mustTellInodes(t, c, want)
	mustTellBlocks(t, c, want)
	mustTellSlots(t, c, want)
	blocks, slots, inodes := c.Free()
	_, free := want.slots()
	if blocks != want.geometry.Blocks-len(want.owners()) || slots != len(free) || inodes != want.geometry.Inodes-len(want.used()) {
		t.Fatalf("Free: %d, %d, %d", blocks, slots, inodes)
	}
	// P17.3
	if slots < blocks {
		t.Fatalf("%d slots are free, and %d blocks", slots, blocks)
	}
}

// mustTellInodes holds Inode, Chain, Used and NextInode.
func mustTellInodes(t *testing.T, c *Claim, want plain) {
	t.Helper()
	for i, n := range want.nodes {
		if got := c.Inode(i); got != n {
			t.Fatalf("Inode(%d): %v, want %v", i, got, n)
		}
		if got := c.Chain(i); !sameChain(got, want.chains[i]) {
			t.Fatalf("Chain(%d): %v, want %v", i, short(got.Slots), short(want.chains[i].Slots))
		}
	}
	for _, i := range noneOf(len(want.nodes)) {
		if 0 <= i && i < len(want.nodes) {
			continue
		}
		if n, l := c.Inode(i), c.Chain(i); n != (inode.Inode{Kind: inode.Free, Head: -1}) || len(l.Slots) != 0 || len(l.Parts) != 0 {
			t.Fatalf("Inode(%d), Chain(%d): %v, %v", i, i, n, l)
		}
	}
	used := want.used()
	if got := c.Used(); !slices.Equal(got, used) {
		t.Fatalf("Used: %v, want %v", short(got), short(used))
	}
	next := -1
	for i := len(want.nodes) - 1; i >= 0; i-- {
		if want.nodes[i].Kind == inode.Free {
			next = i
		}
	}
	if got := c.NextInode(); got != next {
		t.Fatalf("NextInode: %d, want %d", got, next)
	}
}

// mustTellBlocks holds Blocks and Owner.
func mustTellBlocks(t *testing.T, c *Claim, want plain) {
	t.Helper()
	owners, m := want.owners(), c.Blocks()
	if m == nil || m.Len() != want.geometry.Blocks || m.Count() != len(owners) {
		t.Fatalf("Blocks: %v, want %d of %d", m, len(owners), want.geometry.Blocks)
	}
	for b := range want.geometry.Blocks {
		mustOwn(t, c, m, owners, b)
	}
	for _, b := range noneOf(want.geometry.Blocks) {
		mustOwn(t, c, m, owners, b)
	}
}

// mustOwn holds Owner, and what Blocks told, of one block.
func mustOwn(t *testing.T, c *Claim, m *bitmap.Map, owners map[int][2]int, b int) {
	t.Helper()
	o, is := owners[b]
	if !is {
		o = [2]int{-1, -1}
	}
	if i, k := c.Owner(b); i != o[0] || k != o[1] || m.Has(b) != is {
		t.Fatalf("Owner(%d): %d, %d, want %v; Blocks: %v", b, i, k, o, m.Has(b))
	}
}

// mustTellSlots holds Slots and NextSlots.
func mustTellSlots(t *testing.T, c *Claim, want plain) {
	t.Helper()
	m, free := want.slots()
	if got := c.Slots(); !got.Same(m) {
		t.Fatalf("Slots: %v, want %v", got, m)
	}
	asked := append(noneOf(want.geometry.Blocks), 0, 1, 2, 3, 7, len(free)-1, len(free), len(free)+1)
	for _, n := range asked {
		if got := c.NextSlots(n); !slices.Equal(got, free[:min(max(n, 0), len(free))]) {
			t.Fatalf("NextSlots(%d): %d, %v, of %v", n, len(got), short(got), short(free))
		}
	}
}

// mustScan fails, unless a Scan of words answers just these claims, and does nothing, whether or not the device is down.
func mustScan(t *testing.T, l []uint64, want plain) {
	t.Helper()
	d := pm.Of(l)
	for range 2 {
		c, e := Scan(opened(t, d))
		if e != api.OK || c == nil {
			t.Fatalf("%v, %d", c, e)
		}
		mustTell(t, c, want)
		if d.Steps() != 0 || !slices.Equal(d.Words(), l) {
			t.Fatalf("it did %d steps", d.Steps())
		}
		d.Arm(0)
	}
}

// mustNotScan fails, unless there are no claims of words, and nil beside the error.
func mustNotScan(t *testing.T, l []uint64) {
	t.Helper()
	d := pm.Of(l)
	for range 2 {
		if c, e := Scan(opened(t, d)); e != api.ErrForm || c != nil {
			t.Fatalf("%v, %d", c, e)
		}
		if d.Steps() != 0 || !slices.Equal(d.Words(), l) {
			t.Fatalf("it did %d steps", d.Steps())
		}
		d.Arm(0)
	}
}
