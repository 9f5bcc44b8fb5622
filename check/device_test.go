package check

import (
	"fmt"
	"maps"
	"math/rand/v2"
	"slices"
	"strings"
	"testing"

	"cantle/api"
	"cantle/entry"
	"cantle/geometry"
	"cantle/inode"
	"cantle/pm"
	"cantle/slot"
	"cantle/super"
	"cantle/tree"
)

// chance is a source of many numbers, always the same ones.
func chance(seed uint64) *rand.Rand { return rand.New(rand.NewPCG(seed, 19)) }

// small is the geometry of most devices here.
func small() geometry.Geometry { return geometry.Geometry{Blocks: 20, Inodes: 10, Size: 64} }

// thing is an inode that isn't free: its number, what it is, and its bytes, a directory's by its entries, unless they are broken.
type thing struct {
	number  int
	kind    inode.Kind
	bytes   []byte
	entries []entry.Entry
	broken  bool
}

// to is a name that leads to an inode.
func to(name string, number int) entry.Entry { return entry.Entry{Name: name, Inode: number} }

// dir is a directory of entries, of which a name may be there twice, which breaks it.
func dir(number int, l ...entry.Entry) thing {
	x := thing{number: number, kind: inode.Dir, entries: l}
	seen := map[string]bool{}
	for _, n := range l {
		b, e := entry.Encode(n)
		if e != api.OK {
			panic(n)
		}
		x.bytes = append(x.bytes, b...)
		x.broken = x.broken || seen[n.Name]
		seen[n.Name] = true
	}
	return x
}

// doc is a file of bytes.
func doc(number int, b string) thing {
	return thing{number: number, kind: inode.File, bytes: []byte(b)}
}

// torn is a directory one byte of which is another one, so that it is no folder's.
func torn(number int, l ...entry.Entry) thing {
	x := dir(number, append(l, to("torn", 1))...)
	x.bytes[len(x.bytes)-30]++
	x.broken = true
	return x
}

// filled is how many words so many take in lines.
func filled(words int) int { return (words + 7) / 8 * 8 }

// slotAt, bitmapAt and blockAt are the first words of a slot, of the bitmap, and of a block.
func slotAt(g geometry.Geometry, s int) int { return 16 + 8*g.Inodes + s }

func bitmapAt(g geometry.Geometry) int { return 16 + 8*g.Inodes + filled(g.Blocks) }

func blockAt(g geometry.Geometry, b int) int {
	return bitmapAt(g) + filled((g.Blocks+63)/64) + b*g.Size/8
}

// setByte makes a byte of a block another one.
func setByte(g geometry.Geometry, l []uint64, b, at int, x byte) {
	w, shift := blockAt(g, b)+at/8, at%8*8
	l[w] = l[w]&^(0xFF<<shift) | uint64(x)<<shift
}

// places are whose each block and each slot is, by the number of an inode: -1 of none.
type places struct{ blocks, slots []int }

// laid are words of a device that has these things, in places as they fall, a bitmap of just their blocks, and no record. What nothing is told of, is anything.
func laid(t testing.TB, r *rand.Rand, g geometry.Geometry, things ...thing) ([]uint64, places) {
	t.Helper()
	l, e := super.Encode(g)
	if e != api.OK {
		t.Fatal(g, e)
	}
	for w := 8; w < g.Words(); w++ {
		l = append(l, r.Uint64())
	}
	clear(l[8 : 16+8*g.Inodes])
	clear(l[bitmapAt(g) : bitmapAt(g)+(g.Blocks+63)/64])
	p := places{slices.Repeat([]int{-1}, g.Blocks), slices.Repeat([]int{-1}, g.Blocks)}
	blocks, slots := r.Perm(g.Blocks), r.Perm(g.Blocks)
	if r.IntN(2) == 0 {
		slices.Sort(blocks) // so that there are slots of more blocks than one
	}
	for _, x := range things {
		need := (len(x.bytes) + g.Size - 1) / g.Size
		if need > len(blocks) {
			t.Fatal("too few blocks")
		}
		own := blocks[:need]
		blocks = blocks[need:]
		for k, b := range x.bytes {
			setByte(g, l, own[k/g.Size], k%g.Size, b)
		}
		for _, b := range own {
			l[bitmapAt(g)+b/64] |= 1 << (b % 64)
			p.blocks[b] = x.number
		}
		var used []int
		used, slots = linked(t, r, g, l, own, slots)
		for _, s := range used {
			p.slots[s] = x.number
		}
		n := inode.Inode{Kind: x.kind, Head: -1, Size: len(x.bytes)}
		if len(used) > 0 {
			n.Head = used[0]
		}
		lined(t, l, x.number, n)
	}
	return l, p
}

// linked writes a chain of blocks in as many slots as they may take, and answers those, and what is left.
func linked(t testing.TB, r *rand.Rand, g geometry.Geometry, l []uint64, own, slots []int) (used, left []int) {
	t.Helper()
	var parts []slot.Slot
	for _, b := range own {
		k := len(parts) - 1
		if k >= 0 && parts[k].Start+parts[k].Count == b && r.IntN(4) > 0 {
			parts[k].Count++
			continue
		}
		parts = append(parts, slot.Slot{Start: b, Count: 1})
	}
	for k, x := range parts {
		x.Next = -1
		if k+1 < len(parts) {
			x.Next = slots[k+1]
		}
		w, e := slot.Encode(x)
		if e != api.OK {
			t.Fatal(x, e)
		}
		l[slotAt(g, slots[k])] = w
	}
	return slots[:len(parts)], slots[len(parts):]
}

// lined writes an inode's line.
func lined(t testing.TB, l []uint64, number int, n inode.Inode) {
	t.Helper()
	line, e := inode.Encode(n)
	if e != api.OK {
		t.Fatal(n, e)
	}
	copy(l[16+8*number:], line)
}

// lineOf is the inode of a number.
func lineOf(t testing.TB, l []uint64, number int) inode.Inode {
	t.Helper()
	n, e := inode.Decode(l[16+8*number : 24+8*number]...)
	if e != api.OK {
		t.Fatal(number, e)
	}
	return n
}

// image are words of a small device with these things.
func image(t testing.TB, things ...thing) []uint64 {
	t.Helper()
	l, _ := laid(t, chance(1), small(), things...)
	return l
}

// at is what stands at a path.
func at(p string, data string) tree.Item { return tree.Item{Path: p, Data: []byte(data)} }

// dirAt is a directory there.
func dirAt(p string) tree.Item { return tree.Item{Path: p, Dir: true} }

// told is a list of items as a text, to hold two against each other.
func told(l []tree.Item) string {
	var b strings.Builder
	for _, x := range l {
		fmt.Fprintf(&b, "%q %v %q\n", x.Path, x.Dir, x.Data)
	}
	return b.String()
}

// mustJudge fails, unless this is what is wrong first with words, and each call says so, with nothing beside an error.
func mustJudge(t testing.TB, l []uint64, want Fault) {
	t.Helper()
	d := pm.Of(l)
	if f := Judge(d); f != want {
		t.Fatalf("Judge: %d %s, want %d %s", f, Name(f), want, Name(want))
	}
	sound := want == None || want == Bitmap || want == Record
	if x, e := Sound(d); (e == api.OK) != sound || (x != nil) != sound || !sound && e != api.ErrForm {
		t.Fatalf("Sound: %v, %d; %s", x, e, Name(want))
	}
	if m, e := Where(d); (e == api.OK) != sound || (len(m) > 0) != sound || !sound && e != api.ErrForm {
		t.Fatalf("Where: %v, %d; %s", m, e, Name(want))
	}
	if x, e := Check(d); (e == api.OK) != (want == None) || (x != nil) != (want == None) || want != None && e != api.ErrForm {
		t.Fatalf("Check: %v, %d; %s", x, e, Name(want))
	}
}

// mustTree fails, unless words are sound, with this wrong, and have just this tree, each path's inode as it is told.
func mustTree(t testing.TB, l []uint64, want Fault, where map[string]int, items ...tree.Item) {
	t.Helper()
	mustJudge(t, l, want)
	d := pm.Of(l)
	x, e := Sound(d)
	if e != api.OK || told(x.All()) != told(items) {
		t.Fatalf("Sound: %d\n%s, want\n%s", e, told(x.All()), told(items))
	}
	if m, e := Where(d); e != api.OK || !maps.Equal(m, where) {
		t.Fatalf("Where: %d\n%v, want\n%v", e, m, where)
	}
	if want != None {
		return
	}
	if y, e := Check(d); e != api.OK || !y.Same(x) || told(y.All()) != told(items) {
		t.Fatalf("Check: %d\n%s, want\n%s", e, told(y.All()), told(items))
	}
}
