package folder

import (
	"slices"
	"testing"

	"cantle/api"
	"cantle/geometry"
	"cantle/inode"
	"cantle/run"
)

// behind is what words have in a file's last block behind its bytes: byte by byte.
func behind(g geometry.Geometry, l []uint64, f file) []byte {
	blocks := f.blocks()
	var b []byte
	for at := len(f.bytes); at < len(blocks)*g.Size; at++ {
		b = append(b, byteOf(g, l, blocks[at/g.Size], at%g.Size))
	}
	return b
}

// mustLay fails, unless each of these files has its bytes, and behind them what was there.
func mustLay(t *testing.T, g geometry.Geometry, l []uint64, files ...file) {
	t.Helper()
	l = laid(t, g, l, files...)
	o := opened(t, l)
	for _, f := range files {
		mustChain(t, o, f)
		mustHave(t, o, f.number, f.bytes, behind(g, l, f))
	}
}

// P18.1: Bytes, Stay

// A file has each number of bytes from none to five blocks, which are in five slots, and don't rise.
func TestBytesOfEachSize(t *testing.T) {
	g := small()
	for size := 0; size <= 5*64; size++ {
		mustLay(t, g, full(t, g), in(2, inode.File, some(size)))
		mustLay(t, g, blank(t, g), in(5, inode.File, some(size)))
	}
}

// A directory's bytes are told like a file's, whatever they are.
func TestBytesOfADirectory(t *testing.T) {
	g := small()
	for size := 0; size <= 5*64; size += 64 {
		mustLay(t, g, full(t, g), in(0, inode.Dir, some(size)))
		mustLay(t, g, full(t, g), in(3, inode.Dir, make([]byte, size)))
	}
	for _, size := range []int{128, 256, 512, 1024, 2048, 4096} {
		g := geometry.Geometry{Blocks: 3, Inodes: 2, Size: size}
		for bytes := 64; bytes <= 3*size; bytes += 64 {
			need := (bytes + size - 1) / size
			mustLay(t, g, full(t, g), pieces(1, inode.Dir, some(bytes), []int{2, 0, 1}[:need], []int{1, 2, 0}[:need]))
		}
	}
}

// The edges of each size of blocks: none, one byte, just so many blocks, one byte more, one less.
func TestBytesAtBlocksEdges(t *testing.T) {
	for size := 64; size <= 4096; size *= 2 {
		g := geometry.Geometry{Blocks: 10, Inodes: 3, Size: size}
		for _, bytes := range []int{1, 2, size - 1, size, size + 1, 2*size - 1, 2 * size, 2*size + 1, 3*size - 1, 3 * size, 3*size + 1, 4*size - 1, 4 * size} {
			need := (bytes + size - 1) / size
			one := file{1, inode.File, some(bytes), []int{9}, []run.Run{{Start: 5, Count: need}}}
			two := pieces(2, inode.File, some(bytes), []int{4, 0, 2, 6}[:need], []int{3, 9, 0, 2}[:need])
			mustLay(t, g, full(t, g), one, two)
		}
	}
}

// Four blocks in all their orders, and slots in all of theirs.
func TestBytesInEachOrder(t *testing.T) {
	g := geometry.Geometry{Blocks: 4, Inodes: 1, Size: 64}
	orders := ordersOf(4)
	if len(orders) != 24 {
		t.Fatal(len(orders))
	}
	for _, blocks := range orders {
		for _, slots := range orders {
			mustLay(t, g, full(t, g), pieces(0, inode.File, some(250), slots, blocks))
		}
	}
}

// ordersOf are all orders of the numbers below n.
func ordersOf(n int) [][]int {
	if n == 0 {
		return [][]int{nil}
	}
	var l [][]int
	for _, o := range ordersOf(n - 1) {
		for at := range n {
			l = append(l, slices.Insert(slices.Clone(o), at, n-1))
		}
	}
	return l
}

// Runs of several blocks each, that don't rise: within a run blocks do.
func TestBytesOfRuns(t *testing.T) {
	g := small()
	for _, size := range []int{6 * 64, 6*64 - 1, 5*64 + 1} {
		mustLay(t, g, full(t, g), file{4, inode.File, some(size), []int{5, 2, 9}, []run.Run{{Start: 8, Count: 2}, {Start: 0, Count: 3}, {Start: 5, Count: 1}}})
		mustLay(t, g, full(t, g), file{4, inode.File, some(size), []int{0, 1, 2}, []run.Run{{Start: 5, Count: 1}, {Start: 3, Count: 2}, {Start: 0, Count: 3}}})
		mustLay(t, g, full(t, g), file{4, inode.File, some(size), []int{11}, []run.Run{{Start: 6, Count: 6}}})
	}
}

// Any files side by side, in any geometries, have each its own bytes.
func TestBytesOfAnyFiles(t *testing.T) {
	r := chance(2)
	for range 300 {
		g := geometry.Geometry{Blocks: 1 + r.IntN(40), Inodes: 1 + r.IntN(12), Size: 64 << r.IntN(4)}
		files := anyChains(r, g, 1+r.IntN(g.Inodes))
		for k, i := range r.Perm(g.Inodes)[:len(files)] {
			f := &files[k]
			f.number = i
			if most := len(f.blocks()) * g.Size; most > 0 {
				f.bytes = make([]byte, most-r.IntN(g.Size))
			}
			for at := range f.bytes {
				f.bytes[at] = byte(r.IntN(256))
			}
			if len(f.bytes)%64 == 0 && r.IntN(2) == 0 {
				f.kind = inode.Dir
			}
		}
		mustLay(t, g, full(t, g), files...)
	}
}

// As many blocks as there may be, in one piece, and each alone, falling.
func TestBytesOfAGreatFile(t *testing.T) {
	g := geometry.Geometry{Blocks: 65534, Inodes: 2, Size: 64}
	mustLay(t, g, blank(t, g), file{1, inode.File, some(65534*64 - 3), []int{65533}, []run.Run{{Start: 0, Count: 65534}}})
	falling := make([]int, 65534)
	for k := range falling {
		falling[k] = 65533 - k
	}
	mustLay(t, g, blank(t, g), pieces(0, inode.File, some(65534*64), falling, falling))
}

// What stays behind the bytes is told as it is: noughts as noughts, all else as that, whatever it is.
func TestStayIsWhatIsThere(t *testing.T) {
	g := small()
	for _, size := range []int{1, 5, 63, 65, 100, 127, 129, 191} {
		f := in(1, inode.File, some(size))
		last := f.blocks()[size/64]
		for _, fill := range []byte{0, 1, 7, 0xFF} {
			l := laid(t, g, full(t, g), f)
			for at := size % 64; at < 64; at++ {
				setByte(g, l, last, at, fill)
			}
			mustHave(t, opened(t, l), 1, f.bytes, slices.Repeat([]byte{fill}, 64-size%64))
		}
	}
}

// The two together are all that the blocks have.
func TestBytesAndStayAreTheBlocks(t *testing.T) {
	g := geometry.Geometry{Blocks: 9, Inodes: 3, Size: 256}
	for size := 1; size <= 3*256; size += 17 {
		need := (size + 255) / 256
		f := pieces(2, inode.File, some(size), []int{3, 8, 1}[:need], []int{6, 0, 4}[:need])
		o := opened(t, laid(t, g, full(t, g), f))
		b, _ := Bytes(o.v, o.c, 2)
		stay, _ := Stay(o.v, o.c, 2)
		var all []byte
		for _, at := range f.blocks() {
			block, e := o.v.Block(at)
			if e != api.OK {
				t.Fatal(e)
			}
			all = append(all, block...)
		}
		if !slices.Equal(append(b, stay...), all) {
			t.Fatal(size)
		}
	}
}

// mustMiss fails, unless there is nothing of such an inode.
func mustMiss(t *testing.T, o device, i int) {
	t.Helper()
	if b, e := Bytes(o.v, o.c, i); e != api.ErrMissing || b != nil {
		t.Fatalf("Bytes(%d): %d, %d", i, len(b), e)
	}
	if b, is := Stay(o.v, o.c, i); is || b != nil {
		t.Fatalf("Stay(%d): %d, %v", i, len(b), is)
	}
}

// P18.1: ErrMissing
func TestBytesOfWhatIsntThere(t *testing.T) {
	g := small()
	one, two := in(1, inode.File, some(200)), file{5, inode.File, some(3), []int{0}, []run.Run{{Start: 11, Count: 1}}}
	o := opened(t, laid(t, g, full(t, g), one, two))
	for _, i := range missing(0, 2, 3, 4) {
		mustMiss(t, o, i)
	}
	mustHave(t, o, 1, one.bytes, behind(g, laid(t, g, full(t, g), one), one))
	o = opened(t, full(t, g))
	for _, i := range missing(0, 1, 2, 3, 4, 5) {
		mustMiss(t, o, i)
	}
}

// Without bytes an inode is there all the same.
func TestBytesOfNone(t *testing.T) {
	g := small()
	o := opened(t, laid(t, g, full(t, g), file{number: 0, kind: inode.Dir}, file{number: 3, kind: inode.File}))
	mustHave(t, o, 0, nil, nil)
	mustHave(t, o, 3, nil, nil)
	mustMiss(t, o, 1)
}
