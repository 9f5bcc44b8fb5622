package recover

import (
	"math/rand/v2"
	"slices"
	"testing"

	"cantle/api"
	"cantle/bitmap"
	"cantle/chain"
	"cantle/entry"
	"cantle/geometry"
	"cantle/inode"
	"cantle/pm"
	"cantle/record"
	"cantle/run"
	"cantle/super"
	"cantle/tree"
	"cantle/volume"
)

// chance is a source of many numbers, always the same ones.
func chance(seed uint64) *rand.Rand { return rand.New(rand.NewPCG(seed, 20)) }

// small is a geometry whose bitmap has two words, the second one in part.
func small() geometry.Geometry { return geometry.Geometry{Blocks: 70, Inodes: 7, Size: 64} }

// wide is one whose bitmap has ten words, in two lines.
func wide() geometry.Geometry { return geometry.Geometry{Blocks: 600, Inodes: 7, Size: 64} }

// recordAt is the record's first word; inodeAt, slotAt, bitmapAt and blockAt are those of the other parts, each filled to its line's end.
const recordAt = 8

func inodeAt(i int) int { return 16 + 8*i }

func slotAt(g geometry.Geometry, s int) int { return inodeAt(g.Inodes) + s }

func bitmapAt(g geometry.Geometry) int { return slotAt(g, 0) + (g.Blocks+7)/8*8 }

func bitWords(g geometry.Geometry) int { return (g.Blocks + 63) / 64 }

func blockAt(g geometry.Geometry, b int) int {
	return bitmapAt(g) + (bitWords(g)+7)/8*8 + b*g.Size/8
}

// thing is an inode that isn't free: its number, what it is, and its bytes.
type thing struct {
	number int
	kind   inode.Kind
	bytes  []byte
}

// doc is a file of bytes.
func doc(number int, b string) thing { return thing{number, inode.File, []byte(b)} }

// to is a name that leads to an inode.
func to(name string, number int) entry.Entry { return entry.Entry{Name: name, Inode: number} }

// dir is a directory of entries, which may be such as none has.
func dir(number int, l ...entry.Entry) thing {
	x := thing{number: number, kind: inode.Dir}
	for _, n := range l {
		b, e := entry.Encode(n)
		if e != api.OK {
			panic(n)
		}
		x.bytes = append(x.bytes, b...)
	}
	return x
}

// shelved are things with a tree of all kinds: files of many blocks, of one and of none, directories with names and without.
func shelved() []thing {
	return []thing{
		dir(0, to("long", 2), to("d", 3), to("one", 4)), doc(2, long()), dir(3, to("e", 5), to("none", 6)), doc(4, "one"), dir(5), doc(6, ""),
	}
}

// long are bytes of some blocks, and a part of one.
func long() string { return string(make([]byte, 1000)) + "bytes" }

// shelvedTree is the tree of shelved, as it is thought of.
func shelvedTree(t *testing.T) *tree.Tree {
	t.Helper()
	x := tree.New()
	for k, e := range []api.Errno{
		x.Create("/long"), x.Write("/long", 0, []byte(long())), x.Mkdir("/d"), x.Mkdir("/d/e"), x.Create("/d/none"), x.Create("/one"), x.Write("/one", 0, []byte("one")),
	} {
		if e != api.OK {
			t.Fatal(k, e)
		}
	}
	return x
}

// laid are words of a device that has these things, each block in a slot of its own, in places as they fall; a bitmap of just their blocks; and no record. What nothing is told of is anything. The map has the blocks that are some chain's, and slots that are some are true.
func laid(t *testing.T, r *rand.Rand, g geometry.Geometry, things ...thing) (l []uint64, used *bitmap.Map, slots []bool) {
	t.Helper()
	l, e := super.Encode(g)
	if e != api.OK {
		t.Fatal(g, e)
	}
	for len(l) < g.Words() {
		l = append(l, r.Uint64())
	}
	clear(l[recordAt:slotAt(g, 0)])
	v, e := volume.Open(pm.Of(l))
	if e != api.OK {
		t.Fatal(e)
	}
	used, slots = bitmap.New(g.Blocks), make([]bool, g.Blocks)
	freeBlocks, freeSlots := r.Perm(g.Blocks), r.Perm(g.Blocks)
	for _, x := range things {
		parts := slices.Collect(slices.Chunk(x.bytes, g.Size))
		if len(parts) > len(freeBlocks) {
			t.Fatal("too few blocks")
		}
		n := inode.Inode{Kind: x.kind, Head: -1, Size: len(x.bytes)}
		var runs []run.Run
		for k, part := range parts {
			runs = append(runs, run.Run{Start: freeBlocks[k], Count: 1})
			used.Put(freeBlocks[k])
			slots[freeSlots[k]] = true
			n.Head = freeSlots[0]
			mustSet(t, v.SetBlock(freeBlocks[k], part))
		}
		mustSet(t, chain.Write(v, freeSlots[:len(parts)], runs...))
		mustSet(t, v.SetInode(x.number, n))
		freeBlocks, freeSlots = freeBlocks[len(parts):], freeSlots[len(parts):]
	}
	_, e = v.SetBitmap(used)
	mustSet(t, e)
	return v.Device().Words(), used, slots
}

// mustSet fails, unless something could be written.
func mustSet(t *testing.T, e api.Errno) {
	t.Helper()
	if e != api.OK {
		t.Fatal(e)
	}
}

// shelf are words of an image with the tree of shelved, and the blocks that are some chain's.
func shelf(t *testing.T, g geometry.Geometry) ([]uint64, *bitmap.Map) {
	t.Helper()
	l, used, _ := laid(t, chance(1), g, shelved()...)
	return l, used
}

// recordOf is the line of a record that may be.
func recordOf(t *testing.T, r record.Record) []uint64 {
	t.Helper()
	l, e := record.Encode(r)
	if e != api.OK {
		t.Fatal(r, e)
	}
	return l
}

// with are words some of which, from one on, are others.
func with(l []uint64, first int, words ...uint64) []uint64 {
	l = slices.Clone(l)
	copy(l[first:], words)
	return l
}

// turned are words some of whose bits are turned, each told by a word and a bit in it.
func turned(l []uint64, bits ...[2]int) []uint64 {
	l = slices.Clone(l)
	for _, b := range bits {
		l[b[0]] ^= 1 << b[1]
	}
	return l
}

// unlike are words of a device, of a bitmap and of a record, in all ways that matter: right and wrong in some words, with blocks too many, missing, both, and with bits behind the last block; Empty, Full, and Torn.
func unlike(t *testing.T, g geometry.Geometry, l []uint64) (maps, records [][]uint64) {
	t.Helper()
	first, count := bitmapAt(g), bitWords(g)
	right := l[first : first+count]
	inverse, noughts, ones := make([]uint64, count), make([]uint64, count), slices.Repeat([]uint64{1<<64 - 1}, count)
	for k, x := range right {
		inverse[k] = ^x
	}
	maps = [][]uint64{right, inverse, noughts, ones}
	for _, bit := range []int{0, 1, 63} {
		for _, k := range []int{0, count - 1} {
			maps = append(maps, turned(right, [2]int{k, bit}))
		}
	}
	maps = append(maps, turned(right, [2]int{0, 5}, [2]int{0, 6}, [2]int{count - 1, 2}), turned(right, [2]int{0, 63}, [2]int{count - 1, 0}))
	empty, full := make([]uint64, 8), recordOf(t, record.Record{Slot: 1, From: 2, To: 3, Count: 4})
	records = [][]uint64{empty, full, recordOf(t, record.Record{Count: 1}), with(full, 7, 0), with(full, 1, 0), with(empty, 0, full[0]), slices.Repeat([]uint64{1<<64 - 1}, 8)}
	for w := range 8 {
		records = append(records, with(empty, w, 1), with(empty, w, 1<<63), turned(full, [2]int{w, 20}))
	}
	return maps, records
}

// step is one that a device does: the store of a word, the flush of a line, or a fence.
type step struct {
	what  string
	at    int
	value uint64
}

// stepsOf are the steps by which what is seen of a device becomes right: of the bitmap's words and then of the record's those that aren't so already, the least first, then their lines, and a fence, if there was one.
func stepsOf(g geometry.Geometry, d *pm.Device, used *bitmap.Map) (l []step, bits, words int) {
	write := func(first int, want []uint64) int {
		var flushes []step
		count := 0
		for k, x := range want {
			w := first + k
			if d.Load(w) == x {
				continue
			}
			count++
			l = append(l, step{"store", w, x})
			if f := (step{what: "flush", at: w / 8}); !slices.Contains(flushes, f) {
				flushes = append(flushes, f)
			}
		}
		if count > 0 {
			l = append(append(l, flushes...), step{what: "fence"})
		}
		return count
	}
	bits = write(bitmapAt(g), used.Words())
	words = write(recordAt, make([]uint64, 8))
	return l, bits, words
}

// walk does steps, as far as the device does them.
func walk(d *pm.Device, l []step) {
	for _, s := range l {
		switch s.what {
		case "store":
			d.Store(s.at, s.value)
		case "flush":
			d.Flush(s.at)
		case "fence":
			d.Fence()
		}
	}
}

// mustBeAlike fails, unless two devices are the same in all that can be told of them: also in what is flushed, and in what a fuse lets through, which fences tell.
func mustBeAlike(t *testing.T, got, want *pm.Device) {
	t.Helper()
	mustLookAlike(t, got, want)
	got, want = got.Copy(), want.Copy()
	got.Fence()
	want.Fence()
	mustLookAlike(t, got, want)
}

// mustLookAlike holds what can be told without a step.
func mustLookAlike(t *testing.T, got, want *pm.Device) {
	t.Helper()
	if got.Steps() != want.Steps() || got.Stores() != want.Stores() || got.Down() != want.Down() || got.Len() != want.Len() {
		t.Fatalf("%d steps, %d stores, down %v, %d words, want %d, %d, %v, %d", got.Steps(), got.Stores(), got.Down(), got.Len(), want.Steps(), want.Stores(), want.Down(), want.Len())
	}
	for w := range want.Len() {
		if got.Load(w) != want.Load(w) || !slices.Equal(got.May(w), want.May(w)) {
			t.Fatalf("word %d: %x of %x, want %x of %x", w, got.Load(w), got.May(w), want.Load(w), want.May(w))
		}
	}
}

// armed is a copy of a device, with a fuse, unless that is below 0.
func armed(d *pm.Device, fuse int) *pm.Device {
	d = d.Copy()
	if fuse >= 0 {
		d.Arm(fuse)
	}
	return d
}

// mustRecover fails, unless a device that is sound, with claims of these blocks, is recovered by just the steps that it should, without a fuse and with each, and the report tells them; and unless Needs tells whether there are any, and does none.
func mustRecover(t *testing.T, d *pm.Device, g geometry.Geometry, used *bitmap.Map) {
	t.Helper()
	all, bits, words := stepsOf(g, d, used)
	want := Report{Bits: bits, Words: words}
	var line []uint64
	for w := recordAt; w < recordAt+8; w++ {
		line = append(line, d.Load(w))
	}
	want.Move, want.Was = record.Decode(line...)
	for fuse := -1; fuse <= len(all)+1; fuse++ {
		got, also := armed(d, fuse), armed(d, fuse)
		if needs, e := Needs(got); needs != (len(all) > 0) || e != api.OK {
			t.Fatalf("Needs: %v, %d; %d steps, fuse %d", needs, e, len(all), fuse)
		}
		mustLookAlike(t, got, also)
		r, e := Recover(got)
		walk(also, all)
		if 0 <= fuse && fuse < len(all) {
			if r != (Report{}) || e != api.ErrDown {
				t.Fatalf("fuse %d of %d: %+v, %d", fuse, len(all), r, e)
			}
		} else if r != want || e != api.OK {
			t.Fatalf("fuse %d of %d: %+v, %d, want %+v", fuse, len(all), r, e, want)
		}
		mustBeAlike(t, got, also)
	}
}

// mustRefuse fails, unless words that aren't sound are refused by both calls without a step, whether the device is up or not.
func mustRefuse(t *testing.T, l []uint64) {
	t.Helper()
	for fuse := -1; fuse < 2; fuse++ {
		got, also := armed(pm.Of(l), fuse), armed(pm.Of(l), fuse)
		if needs, e := Needs(got); needs || e != api.ErrForm {
			t.Fatalf("Needs: %v, %d", needs, e)
		}
		if r, e := Recover(got); r != (Report{}) || e != api.ErrForm {
			t.Fatalf("Recover: %+v, %d", r, e)
		}
		mustBeAlike(t, got, also)
		if !slices.Equal(got.Words(), l) {
			t.Fatal("the words are other ones")
		}
	}
}
