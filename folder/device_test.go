package folder

import (
	"math"
	"math/rand/v2"
	"slices"
	"testing"

	"cantle/api"
	"cantle/claim"
	"cantle/entry"
	"cantle/geometry"
	"cantle/inode"
	"cantle/pm"
	"cantle/run"
	"cantle/slot"
	"cantle/super"
	"cantle/volume"
)

// chance is a source of many numbers, always the same ones.
func chance(seed uint64) *rand.Rand { return rand.New(rand.NewPCG(seed, 18)) }

// small is the geometry of most devices here.
func small() geometry.Geometry { return geometry.Geometry{Blocks: 12, Inodes: 6, Size: 64} }

// file is an inode that isn't free, as it is laid: its number, what it is, its bytes, and where its blocks are. Behind its bytes its last block has what was there.
type file struct {
	number int
	kind   inode.Kind
	bytes  []byte
	slots  []int
	runs   []run.Run
}

// blocks are those of its runs, in order.
func (f file) blocks() []int {
	var l []int
	for _, r := range f.runs {
		for k := range r.Count {
			l = append(l, r.Start+k)
		}
	}
	return l
}

// blockAt is the first word of a block: it stands behind two lines, the inodes, a line each, and the slots and the bitmap, whose lines are filled.
func blockAt(g geometry.Geometry, b int) int {
	return 16 + 8*g.Inodes + (g.Blocks+7)/8*8 + ((g.Blocks+63)/64+7)/8*8 + b*g.Size/8
}

// byteOf is a byte of a block, as words have it.
func byteOf(g geometry.Geometry, l []uint64, b, at int) byte {
	return byte(l[blockAt(g, b)+at/8] >> (at % 8 * 8))
}

// setByte makes it another one.
func setByte(g geometry.Geometry, l []uint64, b, at int, x byte) {
	w, shift := blockAt(g, b)+at/8, at%8*8
	l[w] = l[w]&^(0xFF<<shift) | uint64(x)<<shift
}

// full are words of a device whose inodes are free, and of which all others behind the superblock are anything.
func full(t *testing.T, g geometry.Geometry) []uint64 {
	t.Helper()
	r := chance(1)
	l, e := super.Encode(g)
	if e != api.OK {
		t.Fatal(g, e)
	}
	for w := 8; w < g.Words(); w++ {
		l = append(l, r.Uint64())
	}
	for i := range g.Inodes {
		clear(l[16+8*i : 24+8*i])
	}
	return l
}

// blank are words of a device whose inodes are free, and of which all others behind the superblock are noughts.
func blank(t *testing.T, g geometry.Geometry) []uint64 {
	t.Helper()
	l := full(t, g)
	clear(l[8:])
	return l
}

// laid are words with these files.
func laid(t *testing.T, g geometry.Geometry, l []uint64, files ...file) []uint64 {
	t.Helper()
	l = slices.Clone(l)
	for _, f := range files {
		n := inode.Inode{Kind: f.kind, Head: -1, Size: len(f.bytes)}
		next := -1
		for k := len(f.slots) - 1; k >= 0; k-- {
			x, e := slot.Encode(slot.Slot{Start: f.runs[k].Start, Count: f.runs[k].Count, Next: next})
			if e != api.OK {
				t.Fatal(f.runs[k], e)
			}
			next = f.slots[k]
			l[16+8*g.Inodes+next] = x
			n.Head = next
		}
		line, e := inode.Encode(n)
		if e != api.OK {
			t.Fatal(n, e)
		}
		copy(l[16+8*f.number:], line)
		blocks := f.blocks()
		for k, x := range f.bytes {
			setByte(g, l, blocks[k/g.Size], k%g.Size, x)
		}
	}
	return l
}

// device is a volume of words, and its claims.
type device struct {
	d *pm.Device
	v *volume.Volume
	c *claim.Claim
}

// opened is that of words that have both.
func opened(t *testing.T, l []uint64) device {
	t.Helper()
	d := pm.Of(l)
	v, e := volume.Open(d)
	if e != api.OK {
		t.Fatal(e)
	}
	c, e := claim.Scan(v)
	if e != api.OK {
		t.Fatal(e)
	}
	return device{d, v, c}
}

// pieces is a file of so many blocks at most, each of which is a slot's alone.
func pieces(number int, kind inode.Kind, b []byte, slots, blocks []int) file {
	f := file{number: number, kind: kind, bytes: b, slots: slots}
	for _, x := range blocks {
		f.runs = append(f.runs, run.Run{Start: x, Count: 1})
	}
	return f
}

// in is a file with these bytes in a device of small geometry: in as many of blocks 7, 2, 9, 0, 5 as it takes, of slots 3, 8, 1, 6, 11.
func in(number int, kind inode.Kind, b []byte) file {
	need := (len(b) + 63) / 64
	return pieces(number, kind, b, []int{3, 8, 1, 6, 11}[:need], []int{7, 2, 9, 0, 5}[:need])
}

// some are so many bytes, none of which is 0, and no two neighbours of which are the same.
func some(n int) []byte {
	b := make([]byte, n)
	for k := range b {
		b[k] = byte(1 + k%251)
	}
	return b
}

// joined are a directory's bytes.
func joined(t *testing.T, l ...entry.Entry) []byte {
	t.Helper()
	b, e := entry.Join(l...)
	if e != api.OK {
		t.Fatal(l, e)
	}
	return b
}

// each are entries' bytes, one behind the other, of one name twice, too.
func each(t *testing.T, l ...entry.Entry) []byte {
	t.Helper()
	var b []byte
	for _, n := range l {
		b = append(b, joined(t, n)...)
	}
	return b
}

// names are entries of these names, whose inodes are 10, 11 and so on.
func names(l ...string) []entry.Entry {
	var entries []entry.Entry
	for k, name := range l {
		entries = append(entries, entry.Entry{Name: name, Inode: 10 + k})
	}
	return entries
}

// noneOf are numbers that none of so many things has: near to theirs, as far as an int may be, and such that would be one by their low bits.
func noneOf(count int) []int {
	return []int{
		-1, -2, -8, -count, -1 - count, -65534, -65535, -65536, count, count + 1, 2 * count, 65534, 65535, 65536, 65534 + count, 1 << 20, math.MaxInt, math.MaxInt - 1,
		math.MinInt, math.MinInt + 1, math.MaxInt32, math.MinInt32, 1 << 32, 1<<32 + count - 1, -1 << 32, 1<<32 - 1, 1 << 48, 1 << 62, -1 << 62,
	}
}

// missing are numbers of inodes that a small device hasn't, or that are free in it.
func missing(free ...int) []int { return append(noneOf(small().Inodes), free...) }

// mustHave fails, unless an inode has just these bytes, and behind them this in its last block; without any of it Stay must be false.
func mustHave(t *testing.T, o device, i int, bytes, stay []byte) {
	t.Helper()
	if b, e := Bytes(o.v, o.c, i); e != api.OK || !slices.Equal(b, bytes) {
		t.Fatalf("Bytes(%d): %d of %d, %d", i, len(b), len(bytes), e)
	}
	b, is := Stay(o.v, o.c, i)
	if is != (len(stay) > 0) || !slices.Equal(b, stay) || !is && b != nil {
		t.Fatalf("Stay(%d): %d of %d, %v", i, len(b), len(stay), is)
	}
}

// mustErr fails, unless Entries of an inode, and Find of any name in it, have this error, and nothing beside it.
func mustErr(t *testing.T, o device, i int, want api.Errno) {
	t.Helper()
	if l, e := Entries(o.v, o.c, i); e != want || l != nil {
		t.Fatalf("Entries(%d): %v, %d, want %d", i, l, e, want)
	}
	for _, name := range []string{"a", "b", "c", "d", "", ".", "/", "a/b"} {
		if node, at, e := Find(o.v, o.c, i, name); node != -1 || at != -1 || e != want {
			t.Fatalf("Find(%d, %q): %d, %d, %d, want %d", i, name, node, at, e, want)
		}
	}
}

// mustEntries fails, unless a folder has just these entries, in order, and each is found at its place.
func mustEntries(t *testing.T, o device, i int, want ...entry.Entry) {
	t.Helper()
	if l, e := Entries(o.v, o.c, i); e != api.OK || !slices.Equal(l, want) {
		t.Fatalf("Entries(%d): %v, %d, want %v", i, l, e, want)
	}
	for k, n := range want {
		if node, at, e := Find(o.v, o.c, i, n.Name); node != n.Inode || at != k || e != api.OK {
			t.Fatalf("Find(%d, %q): %d, %d, %d, want %d, %d", i, n.Name, node, at, e, n.Inode, k)
		}
	}
}

// mustWalk fails, unless names lead to an inode, or to an error.
func mustWalk(t *testing.T, o device, node int, want api.Errno, names ...string) {
	t.Helper()
	if i, e := Walk(o.v, o.c, names...); i != node || e != want {
		t.Fatalf("Walk(%q): %d, %d, want %d, %d", names, i, e, node, want)
	}
}

// anyChains are the places of so many files in a geometry: each has blocks, maybe none, in runs as they fall.
func anyChains(r *rand.Rand, g geometry.Geometry, files int) []file {
	blocks, slots := r.Perm(g.Blocks), r.Perm(g.Blocks)
	if r.IntN(2) == 0 {
		slices.Sort(blocks) // so that there are long runs, too
	}
	var l []file
	for range files {
		f := file{kind: inode.File}
		many := r.IntN(min(len(blocks), 2*g.Blocks/files) + 1)
		for _, b := range blocks[:many] {
			k := len(f.runs) - 1
			if k >= 0 && f.runs[k].Start+f.runs[k].Count == b && r.IntN(3) > 0 {
				f.runs[k].Count++
				continue
			}
			f.runs = append(f.runs, run.Run{Start: b, Count: 1})
		}
		f.slots = slots[:len(f.runs)]
		blocks, slots = blocks[many:], slots[len(f.runs):]
		l = append(l, f)
	}
	return l
}

// mustChain fails, unless a device has the chain that was laid: what is held here is of no worth, if it hasn't.
func mustChain(t *testing.T, o device, f file) {
	t.Helper()
	c := o.c.Chain(f.number)
	if !slices.Equal(c.Blocks(), f.blocks()) || !slices.Equal(c.Slots, f.slots) || !slices.Equal(c.Runs(), f.runs) {
		t.Fatal(c, f.slots, f.runs)
	}
}
