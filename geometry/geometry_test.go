package geometry

import (
	"math"
	"math/bits"
	"testing"

	"cantle/api"
)

// sizes are all those that a block may have.
var sizes = []int{64, 128, 256, 512, 1024, 2048, 4096}

// nowhere are numbers of things that no geometry has.
var nowhere = []int{-1, -2, -8, -64, math.MinInt, math.MinInt + 1, math.MinInt32, 65534, 65535, 65536, 1 << 22, math.MaxInt32, 1 << 32, -1 << 32, math.MaxInt - 1, math.MaxInt,
	// Times 8, or times 512, and with some words ahead these would wrap round to small ones.
	1 << 61, 1<<61 + 1, 1 << 60, 1 << 55, 1<<55 + 1, -1 << 61, -1<<61 + 1, -1 << 55}

// numbers are many numbers, always the same ones.
type numbers uint64

func (n *numbers) next() uint64 {
	*n = *n*6364136223846793005 + 1442695040888963407
	return bits.RotateLeft64(uint64(*n), 29) ^ uint64(*n)
}

// upTo is a number from 1 to a greatest one.
func (n *numbers) upTo(greatest int) int { return 1 + int(n.next()>>8%uint64(greatest)) }

// plan is where the parts begin, and where the last one ends.
type plan struct{ inodes, slots, bitmap, blocks, end int }

// planned is the plan of a geometry by its meaning: word by word, each part from the next line on.
func planned(g Geometry) plan {
	var p plan
	at := 0
	line := func() {
		for at%8 != 0 {
			at++
		}
	}
	at += 8 // the superblock
	at += 8 // the record
	p.inodes = at
	for range g.Inodes {
		at += 8
	}
	p.slots = at
	for range g.Blocks {
		at++
	}
	line()
	p.bitmap = at
	for b := range g.Blocks {
		if b%64 == 0 {
			at++
		}
	}
	line()
	p.blocks = at
	for range g.Blocks {
		for k := 0; k < g.Size; k += 8 {
			at++
		}
	}
	p.end = at
	return p
}

// ordinary are geometries of many kinds that may be: slots and bits that fill their lines, that don't, and all edges of the numbers.
func ordinary() []Geometry {
	l := []Geometry{
		{10, 3, 64}, {70, 2, 128}, {1, 1, 64}, {1, 1, 4096}, {65534, 65534, 64}, {65534, 65534, 128}, {65534, 65534, 256}, {65534, 1, 256}, {1, 65534, 64}, {1, 65534, 4096},
	}
	for _, blocks := range []int{1, 2, 7, 8, 9, 15, 16, 17, 63, 64, 65, 72, 127, 128, 129, 504, 511, 512, 513, 520, 575, 576, 577, 1023, 1024, 1025, 4095, 4096, 4097} {
		for k, size := range sizes {
			l = append(l, Geometry{blocks, 1 + k*blocks%11, size})
		}
	}
	n := numbers(1)
	for range 60 {
		l = append(l, Geometry{n.upTo(7000), n.upTo(5000), sizes[n.upTo(len(sizes))-1]})
	}
	return l
}

// never are geometries that may not be: a number below its least or above its greatest one, no size, and words that would wrap round.
func never() []Geometry {
	l := []Geometry{
		{}, {0, 0, 64}, {-1, -1, -64}, {10, 3, 0}, {math.MaxInt, math.MaxInt, math.MaxInt}, {math.MinInt, math.MinInt, math.MinInt},
		{65535, 65535, 64}, {65534, 65534, 8192}, {65534, 1, 4096}, {65534, 65534, 4096}, {65534, 1, 512},
		// Their parts come to 2^64 words and a few.
		{1 << 61, 1, 64}, {1, 1 << 61, 64}, {1, 1<<61 + 1, 64}, {1 << 58, 1 << 61, 512}, {1 << 63 >> 9, 1, 4096}, {-1 << 61, 1, 64}, {1, -1<<61 + 1, 64},
	}
	for _, count := range []int{0, -1, -2, 65535, 65536, 1 << 17, 1<<32 + 1, -1<<32 + 1, math.MaxInt, math.MinInt, math.MinInt + 1, math.MaxInt32, math.MinInt32} {
		l = append(l, Geometry{count, 1, 64}, Geometry{1, count, 64}, Geometry{count, 1, 4096}, Geometry{1, count, 4096}, Geometry{count, count, 64})
	}
	return l
}

// mustNotBe fails, unless a geometry may not be, and tells of nothing where it is.
func mustNotBe(t *testing.T, g Geometry) {
	t.Helper()
	if g.May() || g.Words() != 0 || g.Each() != 0 {
		t.Errorf("%v may be: %t, %d words, %d each", g, g.May(), g.Words(), g.Each())
	}
	if g.Super() != -1 || g.Record() != -1 {
		t.Errorf("%v has a superblock at %d, a record at %d", g, g.Super(), g.Record())
	}
	if first, words := g.Bitmap(); first != -1 || words != 0 {
		t.Errorf("%v has a bitmap: %d, %d", g, first, words)
	}
	for _, k := range append([]int{0, 1, g.Blocks - 1, g.Inodes - 1}, nowhere...) {
		word, bit := g.Bit(k)
		if g.Inode(k) != -1 || g.Slot(k) != -1 || g.Block(k) != -1 || word != -1 || bit != 0 {
			t.Errorf("%v, %d: inode %d, slot %d, block %d, bit %d, %d", g, k, g.Inode(k), g.Slot(k), g.Block(k), word, bit)
		}
		if g.Need(k) != 0 {
			t.Errorf("%v needs %d blocks for %d bytes", g, g.Need(k), k)
		}
	}
}

// mustBe fails, unless a geometry may be, with its parts where they are planned.
func mustBe(t *testing.T, g Geometry) {
	t.Helper()
	p := planned(g)
	if !g.May() || g.Words() != p.end || g.Each() != g.Size/8 || g.Super() != 0 || g.Record() != 8 {
		t.Fatalf("%v: %t, %d words, %d each, superblock %d, record %d, want %d words", g, g.May(), g.Words(), g.Each(), g.Super(), g.Record(), p.end)
	}
	if first, words := g.Bitmap(); first != p.bitmap || words != (g.Blocks+63)/64 {
		t.Fatalf("%v: bitmap %d, %d, want %d", g, first, words, p.bitmap)
	}
	for i := range g.Inodes {
		if at := g.Inode(i); at != p.inodes+8*i {
			t.Fatalf("%v: inode %d at %d, want %d", g, i, at, p.inodes+8*i)
		}
	}
	for b := range g.Blocks {
		if at := g.Slot(b); at != p.slots+b {
			t.Fatalf("%v: slot %d at %d, want %d", g, b, at, p.slots+b)
		}
		if at := g.Block(b); at != p.blocks+b*g.Size/8 {
			t.Fatalf("%v: block %d at %d, want %d", g, b, at, p.blocks+b*g.Size/8)
		}
		if word, bit := g.Bit(b); word != p.bitmap+b>>6 || bit != b&63 {
			t.Fatalf("%v: bit of block %d: %d, %d", g, b, word, bit)
		}
	}
}

// P4.1

func TestTheExample(t *testing.T) {
	g := Geometry{Blocks: 10, Inodes: 3, Size: 64}
	first, words := g.Bitmap()
	if !g.May() || g.Inode(2) != 32 || g.Slot(0) != 40 || first != 56 || words != 1 || g.Block(0) != 64 || g.Words() != 144 {
		t.Error(g.May(), g.Inode(2), g.Slot(0), first, words, g.Block(0), g.Words())
	}
}

// By hand, lest the plan errs like the program.
func TestPlacesByHand(t *testing.T) {
	for _, c := range []struct {
		g                                                   Geometry
		inode, slot, lastSlot, bitmap, bits, block, last, w int
	}{
		{Geometry{1, 1, 64}, 16, 24, 24, 32, 1, 40, 40, 48},
		{Geometry{1, 1, 4096}, 16, 24, 24, 32, 1, 40, 40, 552},
		{Geometry{8, 1, 64}, 16, 24, 31, 32, 1, 40, 96, 104},
		{Geometry{9, 1, 64}, 16, 24, 32, 40, 1, 48, 112, 120},
		{Geometry{64, 2, 64}, 24, 32, 95, 96, 1, 104, 608, 616},
		{Geometry{65, 2, 64}, 24, 32, 96, 104, 2, 112, 624, 632},
		{Geometry{512, 1, 128}, 16, 24, 535, 536, 8, 544, 8720, 8736},
		{Geometry{513, 1, 128}, 16, 24, 536, 544, 9, 560, 8752, 8768},
		{Geometry{65534, 65534, 64}, 524280, 524288, 589821, 589824, 1024, 590848, 1115112, 1115120},
	} {
		first, words := c.g.Bitmap()
		if c.g.Inode(c.g.Inodes-1) != c.inode || c.g.Slot(0) != c.slot || c.g.Slot(c.g.Blocks-1) != c.lastSlot || first != c.bitmap || words != c.bits {
			t.Errorf("%v: inode %d, slots %d, %d, bitmap %d, %d", c.g, c.g.Inode(c.g.Inodes-1), c.g.Slot(0), c.g.Slot(c.g.Blocks-1), first, words)
		}
		if c.g.Block(0) != c.block || c.g.Block(c.g.Blocks-1) != c.last || c.g.Words() != c.w {
			t.Errorf("%v: blocks %d, %d, words %d", c.g, c.g.Block(0), c.g.Block(c.g.Blocks-1), c.g.Words())
		}
	}
}

func TestOrdinaryOnesAreAsPlanned(t *testing.T) {
	for _, g := range ordinary() {
		mustBe(t, g)
	}
}

func TestNumbersThatMayNotBe(t *testing.T) {
	for _, g := range never() {
		mustNotBe(t, g)
	}
}

func TestEachNumberAtItsEnds(t *testing.T) {
	for _, size := range []int{64, 128, 256} {
		for _, g := range []Geometry{{1, 1, size}, {65534, 1, size}, {1, 65534, size}, {65534, 65534, size}} {
			if !g.May() {
				t.Errorf("%v may not be", g)
			}
			mustNotBe(t, Geometry{0, g.Inodes, size})
			mustNotBe(t, Geometry{65535, g.Inodes, size})
			mustNotBe(t, Geometry{g.Blocks, 0, size})
			mustNotBe(t, Geometry{g.Blocks, 65535, size})
		}
	}
}

func TestSizesThatMayBeAndSizesThatMayNot(t *testing.T) {
	may := map[int]bool{}
	for _, size := range sizes {
		may[size] = true
	}
	other := []int{math.MinInt, math.MinInt + 64, math.MinInt32, math.MaxInt32, math.MaxInt, math.MaxInt - 63, 1<<32 + 64, -1<<32 + 64}
	for size := -5000; size <= 20000; size++ {
		other = append(other, size)
	}
	for k := range 63 {
		other = append(other, 1<<k, -1<<k, 1<<k+64)
	}
	met := map[int]bool{}
	for _, size := range other {
		g := Geometry{10, 3, size}
		if g.May() != may[size] {
			t.Errorf("%v may be: %t", g, g.May())
		}
		if !may[size] {
			mustNotBe(t, g)
			continue
		}
		met[size] = true
		if g.Each() != size/8 || g.Words() != 64+10*size/8 {
			t.Errorf("%v: %d each, %d words", g, g.Each(), g.Words())
		}
	}
	if len(met) != len(sizes) {
		t.Errorf("just %d sizes were met", len(met))
	}
}

// full are geometries whose parts come to just MaxWords words. Of the smaller sizes none do, whatever the numbers are.
var full = []Geometry{{64511, 8, 512}, {64000, 4161, 512}, {60000, 36668, 512}, {57344, 58254, 512}, {30000, 40477, 1024}, {16000, 10254, 2048}, {8000, 11270, 4096}}

func TestAsManyWordsAsThereMayBe(t *testing.T) {
	for _, g := range full {
		if g.Words() != 1<<22 || g.Block(g.Blocks-1)+g.Each() != 1<<22 {
			t.Errorf("%v: %d words", g, g.Words())
		}
		mustBe(t, g)
		// A line less, a line more, and a block less and more.
		mustBe(t, Geometry{g.Blocks, g.Inodes - 1, g.Size})
		mustNotBe(t, Geometry{g.Blocks, g.Inodes + 1, g.Size})
		mustBe(t, Geometry{g.Blocks - 1, g.Inodes, g.Size})
		mustNotBe(t, Geometry{g.Blocks + 1, g.Inodes, g.Size})
	}
}

func TestAsManyBlocksAsThereMayBe(t *testing.T) {
	for _, g := range []Geometry{{64511, 1, 512}, {32509, 1, 1024}, {16319, 1, 2048}, {8175, 1, 4096}} {
		mustBe(t, g)
		mustNotBe(t, Geometry{g.Blocks + 1, 1, g.Size})
	}
}

func TestPlacesOfWhatThereIsnt(t *testing.T) {
	for _, g := range ordinary() {
		for _, i := range append([]int{g.Inodes, g.Inodes + 1}, nowhere...) {
			if g.Inode(i) != -1 {
				t.Errorf("%v: inode %d at %d", g, i, g.Inode(i))
			}
		}
		// Slots and bits that only fill a line are none.
		for _, b := range append([]int{g.Blocks, g.Blocks + 1, (g.Blocks + 7) / 8 * 8, (g.Blocks + 63) / 64 * 64, g.Words()}, nowhere...) {
			word, bit := g.Bit(b)
			if g.Slot(b) != -1 || g.Block(b) != -1 || word != -1 || bit != 0 {
				t.Errorf("%v, %d: slot %d, block %d, bit %d, %d", g, b, g.Slot(b), g.Block(b), word, bit)
			}
		}
	}
}

// Each is told by its own number: more blocks than inodes, and fewer.
func TestBlocksAndInodesAreCountedApart(t *testing.T) {
	g := Geometry{2, 5, 64}
	if g.Inode(4) != 48 || g.Slot(2) != -1 || g.Block(2) != -1 {
		t.Error(g.Inode(4), g.Slot(2), g.Block(2))
	}
	if word, bit := g.Bit(2); word != -1 || bit != 0 {
		t.Error(word, bit)
	}
	g = Geometry{5, 2, 64}
	if g.Inode(2) != -1 || g.Slot(4) != 36 || g.Block(4) != 80 {
		t.Error(g.Inode(2), g.Slot(4), g.Block(4))
	}
	if word, bit := g.Bit(4); word != 40 || bit != 4 {
		t.Error(word, bit)
	}
}

func TestBlocksThatBytesTake(t *testing.T) {
	for _, size := range sizes {
		// Bytes take what they take, whether there are so many blocks or not.
		for _, g := range []Geometry{{1, 1, size}, {7, 9, size}, {1000, 1000, size}} {
			want := 0
			for bytes := range 3*size + 2 {
				if bytes > want*size {
					want++
				}
				if g.Need(bytes) != want {
					t.Fatalf("%v: %d bytes take %d, want %d", g, bytes, g.Need(bytes), want)
				}
			}
			for k := range 40 {
				for _, count := range []int{1 << k, 3 << k} {
					if g.Need(count*size-1) != count || g.Need(count*size) != count || g.Need(count*size+1) != count+1 {
						t.Errorf("%v: %d blocks: %d, %d, %d", g, count, g.Need(count*size-1), g.Need(count*size), g.Need(count*size+1))
					}
				}
			}
			if g.Need(api.MaxSize) != api.MaxSize/size || g.Need(math.MaxInt32) != 1<<31/size {
				t.Errorf("%v: %d, %d", g, g.Need(api.MaxSize), g.Need(math.MaxInt32))
			}
			for _, bytes := range []int{-1, -2, -63, -64, -65, -size, -size - 1, math.MinInt32, math.MinInt, math.MinInt + 1, math.MinInt + size} {
				if g.Need(bytes) != 0 {
					t.Errorf("%v: %d bytes take %d", g, bytes, g.Need(bytes))
				}
			}
		}
	}
}

func TestBytesAtAnIntsEnds(t *testing.T) {
	for k, size := range sizes {
		g := Geometry{1, 1, size}
		want := 1 << (57 - k)
		if g.Need(math.MaxInt) != want || g.Need(math.MaxInt-size+2) != want || g.Need(math.MaxInt-size+1) != want-1 || g.Need(math.MaxInt-size) != want-1 {
			t.Errorf("%v: %d, %d, %d, %d", g, g.Need(math.MaxInt), g.Need(math.MaxInt-size+2), g.Need(math.MaxInt-size+1), g.Need(math.MaxInt-size))
		}
		if g.Need(math.MinInt) != 0 {
			t.Errorf("%v: %d", g, g.Need(math.MinInt))
		}
	}
	for _, g := range never() {
		for _, bytes := range []int{0, 1, 64, 4096, math.MaxInt, math.MinInt} {
			if g.Need(bytes) != 0 {
				t.Errorf("%v: %d bytes take %d", g, bytes, g.Need(bytes))
			}
		}
	}
}

func TestFieldsAndNothingElse(t *testing.T) {
	g := Geometry{10, 3, 64}
	if g != (Geometry{Blocks: 10, Inodes: 3, Size: 64}) || g == (Geometry{3, 10, 64}) || (Geometry{}) != (Geometry{0, 0, 0}) {
		t.Error(g)
	}
	// What is asked leaves it as it is.
	g.May()
	g.Words()
	g.Bit(3)
	g.Need(1000)
	if g != (Geometry{10, 3, 64}) {
		t.Error(g)
	}
}

// P4.2

// Whose a word is.
const (
	nobody byte = iota
	super
	record
	inode
	slot
	bitmap
	block
)

// owners tells whose each word is, by what a geometry answers; it fails, if a word would be two parts', or lies outside.
func owners(t *testing.T, g Geometry) []byte {
	t.Helper()
	l := make([]byte, g.Words())
	take := func(first, words int, whose byte) {
		t.Helper()
		if first < 0 || words < 1 || first+words > len(l) {
			t.Fatalf("%v: words %d to %d, part %d, lie outside", g, first, first+words, whose)
		}
		for w := first; w < first+words; w++ {
			if l[w] != nobody {
				t.Fatalf("%v: word %d is parts' %d and %d", g, w, l[w], whose)
			}
			l[w] = whose
		}
	}
	take(g.Super(), api.Line, super)
	take(g.Record(), api.Line, record)
	for i := range g.Inodes {
		take(g.Inode(i), api.Line, inode)
	}
	for b := range g.Blocks {
		take(g.Slot(b), 1, slot)
		take(g.Block(b), g.Each(), block)
	}
	first, words := g.Bitmap()
	take(first, words, bitmap)
	return l
}

func TestPartsDontOverlapAndFillAllButLines(t *testing.T) {
	for _, g := range append(ordinary(), full...) {
		l := owners(t, g)
		free := 0
		for w, whose := range l {
			if whose != nobody {
				continue
			}
			free++
			// What fills a line stands behind slots or bits, and within their line.
			last := w
			for l[last] == nobody {
				last--
			}
			if last/api.Line != w/api.Line || l[last] != slot && l[last] != bitmap {
				t.Fatalf("%v: word %d is nobody's, behind %d, part %d", g, w, last, l[last])
			}
		}
		if want := (8-g.Blocks%8)%8 + (8-(g.Blocks+63)/64%8)%8; free != want {
			t.Fatalf("%v: %d words are nobody's, want %d", g, free, want)
		}
		if l[len(l)-1] != block {
			t.Fatalf("%v: the last word is part %d", g, l[len(l)-1])
		}
	}
}

func TestEachPartBeginsWithALineInTheOrderOfTheDocument(t *testing.T) {
	for _, g := range ordinary() {
		first, words := g.Bitmap()
		ends := []int{0, g.Record(), g.Inode(0), g.Slot(0), first, g.Block(0), g.Words()}
		for k, at := range ends {
			if at%api.Line != 0 || k > 0 && at < ends[k-1]+api.Line {
				t.Fatalf("%v: %d", g, ends)
			}
		}
		if g.Super() != 0 || first+words > g.Block(0) || g.Slot(g.Blocks-1) >= first || g.Inode(g.Inodes-1)+api.Line != g.Slot(0) || g.Block(g.Blocks-1)+g.Each() != g.Words() {
			t.Fatalf("%v: a part reaches into the next one, or ends ahead of it", g)
		}
	}
}

func TestEachBlockHasABitOfItsOwn(t *testing.T) {
	for _, g := range ordinary() {
		first, words := g.Bitmap()
		seen := make([]uint64, words)
		for b := range g.Blocks {
			word, bit := g.Bit(b)
			if word < first || word >= first+words || bit < 0 || bit >= 64 || seen[word-first]>>bit&1 == 1 {
				t.Fatalf("%v: block %d has bit %d of word %d", g, b, bit, word)
			}
			seen[word-first] |= 1 << bit
		}
		for k, x := range seen {
			if k < words-1 && x != math.MaxUint64 || x == 0 {
				t.Fatalf("%v: word %d of the bitmap has bits %#x", g, k, x)
			}
		}
	}
}
