package super

import (
	"encoding/binary"
	"hash/crc32"
	"math"
	"math/bits"
	"slices"
	"testing"

	"cantle/api"
	"cantle/geometry"
	"cantle/pm"
)

// sizes are all those that a block may have.
var sizes = []int{64, 128, 256, 512, 1024, 2048, 4096}

// numbers are many numbers, always the same ones.
type numbers uint64

func (n *numbers) next() uint64 {
	*n = *n*6364136223846793005 + 1442695040888963407
	return bits.RotateLeft64(uint64(*n), 29) ^ uint64(*n)
}

// upTo is a number from 1 to a greatest one.
func (n *numbers) upTo(greatest int) int { return 1 + int(n.next()>>8%uint64(greatest)) }

// summed are some words, and in place of the last one the sum that fits.
func summed(l []uint64) []uint64 {
	var b []byte
	ahead := l[:len(l)-1]
	for _, x := range ahead {
		b = binary.LittleEndian.AppendUint64(b, x)
	}
	return append(slices.Clone(ahead), uint64(crc32.ChecksumIEEE(b)))
}

// meant is the superblock of three numbers by its meaning, whether or not they may be.
func meant(blocks, inodes, size uint64) []uint64 {
	return summed([]uint64{binary.LittleEndian.Uint64([]byte("CANTLE01")), blocks + inodes<<16 + size<<32, 0, 0, 0, 0, 0, 0})
}

// ofGeometry is the superblock of a geometry by its meaning.
func ofGeometry(g geometry.Geometry) []uint64 {
	return meant(uint64(g.Blocks), uint64(g.Inodes), uint64(g.Size))
}

// may are geometries that may be: of every size, each number at its least and its greatest, and many between.
func may() []geometry.Geometry {
	l := []geometry.Geometry{
		{Blocks: 10, Inodes: 3, Size: 64}, {Blocks: 65534, Inodes: 65534, Size: 64}, {Blocks: 65534, Inodes: 65534, Size: 128}, {Blocks: 65534, Inodes: 65534, Size: 256},
		{Blocks: 1, Inodes: 2, Size: 64}, {Blocks: 2, Inodes: 1, Size: 64}, {Blocks: 255, Inodes: 256, Size: 128}, {Blocks: 256, Inodes: 255, Size: 128},
		{Blocks: 32767, Inodes: 32768, Size: 256}, {Blocks: 32768, Inodes: 32767, Size: 256},
	}
	for _, size := range sizes {
		l = append(l, geometry.Geometry{Blocks: 1, Inodes: 1, Size: size}, geometry.Geometry{Blocks: 1, Inodes: 65534, Size: size}, geometry.Geometry{Blocks: most(1, size), Inodes: 1, Size: size})
		l = append(l, geometry.Geometry{Blocks: most(65534, size), Inodes: 65534, Size: size})
	}
	n := numbers(1)
	for range 200 {
		l = append(l, geometry.Geometry{Blocks: n.upTo(7000), Inodes: n.upTo(60000), Size: sizes[n.upTo(len(sizes))-1]})
	}
	return l
}

// most is how many blocks a geometry may have, with so many inodes and bytes a block.
func most(inodes, size int) int {
	blocks := 65534
	for !(geometry.Geometry{Blocks: blocks, Inodes: inodes, Size: size}).May() {
		blocks--
	}
	return blocks
}

// mayNot are geometries that may not be, but whose numbers have 16 bits, so that a superblock could tell them.
func mayNot() []geometry.Geometry {
	l := []geometry.Geometry{
		{}, {Inodes: 3, Size: 64}, {Blocks: 10, Size: 64}, {Blocks: 10, Inodes: 3}, {Blocks: 65535, Inodes: 3, Size: 64}, {Blocks: 10, Inodes: 65535, Size: 64},
		{Blocks: 65535, Inodes: 65535, Size: 65535}, {Blocks: 65534, Inodes: 1, Size: 512}, {Blocks: 65534, Inodes: 65534, Size: 4096},
	}
	for _, size := range []int{1, 8, 32, 63, 65, 96, 127, 192, 4095, 4097, 8192, 32768, 65535} {
		l = append(l, geometry.Geometry{Blocks: 10, Inodes: 3, Size: size})
	}
	for _, size := range sizes {
		if blocks := most(3, size); blocks < 65534 {
			l = append(l, geometry.Geometry{Blocks: blocks + 1, Inodes: 3, Size: size})
		}
	}
	return l
}

// cannot are geometries with numbers that 16 bits can't tell: some of them would, cut to 16 bits or run into the next number, be one that may be.
func cannot() []geometry.Geometry {
	l := []geometry.Geometry{
		{Blocks: 10 + 3<<16, Inodes: 0, Size: 64}, {Blocks: 10, Inodes: 3 + 64<<16, Size: 0}, {Blocks: 10 + 3<<16 + 64<<32, Inodes: 0, Size: 0},
		{Blocks: math.MaxInt, Inodes: math.MaxInt, Size: math.MaxInt}, {Blocks: math.MinInt, Inodes: math.MinInt, Size: math.MinInt},
	}
	for _, x := range []int{1 << 16, -1 << 16, 1 << 32, -1 << 32, 1 << 48, 1 << 62, math.MinInt} {
		l = append(l, geometry.Geometry{Blocks: 10 + x, Inodes: 3, Size: 64}, geometry.Geometry{Blocks: 10, Inodes: 3 + x, Size: 64}, geometry.Geometry{Blocks: 10, Inodes: 3, Size: 64 + x})
	}
	for _, x := range []int{-1, -2, math.MinInt, math.MaxInt, math.MinInt32, math.MaxInt32} {
		l = append(l, geometry.Geometry{Blocks: x, Inodes: 3, Size: 64}, geometry.Geometry{Blocks: 10, Inodes: x, Size: 64}, geometry.Geometry{Blocks: 10, Inodes: 3, Size: x})
	}
	return l
}

// mustBe fails, unless the words are a geometry's superblock.
func mustBe(t *testing.T, g geometry.Geometry, l []uint64) {
	t.Helper()
	if h, e := Decode(l...); e != api.OK || h != g {
		t.Errorf("Decode of %v's %x: %v, %d", g, l, h, e)
	}
}

// mustBeNone fails, unless the words are no superblock.
func mustBeNone(t *testing.T, l []uint64) {
	t.Helper()
	if g, e := Decode(l...); e != api.ErrForm || g != (geometry.Geometry{}) {
		t.Errorf("Decode of %x: %v, %d", l, g, e)
	}
}

// mustNotRead fails, unless a device has no superblock that is its own.
func mustNotRead(t *testing.T, d *pm.Device) {
	t.Helper()
	if g, e := Read(d); e != api.ErrForm || g != (geometry.Geometry{}) {
		t.Errorf("Read of %d words, %x first: %v, %d", d.Len(), d.Load(0), g, e)
	}
}

// device is one of so many words, the first of which are given.
func device(words int, first []uint64) *pm.Device {
	l := make([]uint64, words)
	copy(l, first)
	return pm.Of(l)
}

// P5.1: Encode

func TestEncodeIsWhatAnImageSays(t *testing.T) {
	for _, g := range may() {
		l, e := Encode(g)
		if want := ofGeometry(g); e != api.OK || !slices.Equal(l, want) {
			t.Errorf("Encode(%v): %x, %d, want %x", g, l, e, want)
		}
	}
}

func TestEncodeByHand(t *testing.T) {
	l, e := Encode(geometry.Geometry{Blocks: 10, Inodes: 3, Size: 64})
	if e != api.OK || len(l) != 8 {
		t.Fatal(l, e)
	}
	if l[0] != 'C'|'A'<<8|'N'<<16|'T'<<24|'L'<<32|'E'<<40|'0'<<48|'1'<<56 {
		t.Errorf("%x", l[0])
	}
	if l[1] != 10+3*65536+64*4294967296 {
		t.Error(l[1])
	}
	if !slices.Equal(l[2:7], make([]uint64, 5)) {
		t.Error(l[2:7])
	}
}

func TestEncodeOfWhatMayNotBe(t *testing.T) {
	for _, g := range append(mayNot(), cannot()...) {
		if l, e := Encode(g); e != api.ErrArg || len(l) != 0 {
			t.Errorf("Encode(%v): %x, %d", g, l, e)
		}
	}
}

// P5.1: Decode

func TestDecodeTellsTheGeometry(t *testing.T) {
	for _, g := range may() {
		mustBe(t, g, ofGeometry(g))
	}
}

func TestDecodeOfAnotherCount(t *testing.T) {
	l := ofGeometry(geometry.Geometry{Blocks: 10, Inodes: 3, Size: 64})
	mustBeNone(t, nil)
	mustBeNone(t, []uint64{})
	for count := range 8 {
		mustBeNone(t, l[:count])
		mustBeNone(t, l[8-count:])
	}
	mustBeNone(t, append(slices.Clone(l), 0))
	mustBeNone(t, append(slices.Clone(l), l[7]))
	mustBeNone(t, append([]uint64{0}, l...))
	mustBeNone(t, append(slices.Clone(l), l...))
	mustBeNone(t, append(slices.Clone(l), make([]uint64, 1000)...))
	// A nought too few, or one too many, with the sum as it was and with one that fits.
	for _, other := range [][]uint64{slices.Delete(slices.Clone(l), 3, 4), slices.Insert(slices.Clone(l), 3, 0)} {
		mustBeNone(t, other)
		mustBeNone(t, summed(other))
	}
}

func TestDecodeOfOtherWords(t *testing.T) {
	mustBeNone(t, make([]uint64, 8))
	mustBeNone(t, slices.Repeat([]uint64{math.MaxUint64}, 8))
	mustBeNone(t, summed(make([]uint64, 8)))
	n := numbers(2)
	for range 200 {
		var l []uint64
		for range 8 {
			l = append(l, n.next())
		}
		mustBeNone(t, summed(l))
		l[0] = ofGeometry(geometry.Geometry{})[0]
		mustBeNone(t, summed(l))
	}
}

func TestDecodeOfEachBitTurned(t *testing.T) {
	for _, g := range may()[:12] {
		l := ofGeometry(g)
		for w := range l {
			for bit := range 64 {
				turned := slices.Clone(l)
				turned[w] ^= 1 << bit
				mustBeNone(t, turned)
			}
		}
	}
}

func TestDecodeOfTwoBitsTurned(t *testing.T) {
	l := ofGeometry(geometry.Geometry{Blocks: 10, Inodes: 3, Size: 64})
	n := numbers(3)
	for range 3000 {
		turned := slices.Clone(l)
		one, other := n.upTo(512)-1, n.upTo(512)-1
		if one == other {
			continue
		}
		turned[one/64] ^= 1 << (one % 64)
		turned[other/64] ^= 1 << (other % 64)
		mustBeNone(t, turned)
	}
}

func TestDecodeOfABitTurnedWithASumThatFits(t *testing.T) {
	g := geometry.Geometry{Blocks: 10, Inodes: 3, Size: 64}
	l := ofGeometry(g)
	for _, w := range []int{0, 2, 3, 4, 5, 6} {
		for bit := range 64 {
			turned := slices.Clone(l)
			turned[w] ^= 1 << bit
			mustBeNone(t, summed(turned))
		}
	}
	for bit := 48; bit < 64; bit++ {
		turned := slices.Clone(l)
		turned[1] ^= 1 << bit
		mustBeNone(t, summed(turned))
	}
	// The numbers' own bits tell another geometry, or none that may be.
	for bit := range 48 {
		turned := slices.Clone(l)
		turned[1] ^= 1 << bit
		x := turned[1]
		h := geometry.Geometry{Blocks: int(x & 65535), Inodes: int(x >> 16 & 65535), Size: int(x >> 32 & 65535)}
		if h.May() {
			mustBe(t, h, summed(turned))
		} else {
			mustBeNone(t, summed(turned))
		}
	}
}

func TestDecodeOfASumWithMoreAbove(t *testing.T) {
	l := ofGeometry(geometry.Geometry{Blocks: 10, Inodes: 3, Size: 64})
	for _, more := range []uint64{1 << 32, l[7] << 32, math.MaxUint32 << 32} {
		above := slices.Clone(l)
		above[7] |= more
		mustBeNone(t, above)
	}
	for _, sum := range []uint64{0, ^l[7], l[7] ^ math.MaxUint32, l[7] + 1, l[7] - 1, math.MaxUint64} {
		other := slices.Clone(l)
		other[7] = sum
		mustBeNone(t, other)
	}
}

func TestDecodeOfAGeometryThatMayNotBe(t *testing.T) {
	for _, g := range mayNot() {
		mustBeNone(t, ofGeometry(g))
	}
	// 16 bits that aren't 0, above numbers that may be.
	for _, more := range []uint64{1, 1 << 15, 65535} {
		mustBeNone(t, meant(10, 3, 64+more<<16))
	}
}

// P5.1: Read

func TestReadOfADevice(t *testing.T) {
	for _, g := range may()[:80] {
		l, words := ofGeometry(g), g.Words()
		if h, e := Read(device(words, l)); e != api.OK || h != g {
			t.Errorf("%v: %v, %d", g, h, e)
		}
		mustNotRead(t, device(words-1, l))
		// A device has no more words than MaxWords, whatever it is asked.
		if words < api.MaxWords {
			mustNotRead(t, device(words+1, l))
		}
	}
}

func TestReadOfAsManyWordsAsThereMayBe(t *testing.T) {
	for _, g := range []geometry.Geometry{{Blocks: 56449, Inodes: 65526, Size: 512}, {Blocks: 7154, Inodes: 65521, Size: 4096}} {
		if g.Words() != api.MaxWords {
			t.Fatal(g, g.Words())
		}
		if h, e := Read(device(api.MaxWords, ofGeometry(g))); e != api.OK || h != g {
			t.Errorf("%v: %v, %d", g, h, e)
		}
		mustNotRead(t, device(api.MaxWords-1, ofGeometry(g)))
		// One inode more takes more words than a device may have.
		g.Inodes++
		mustNotRead(t, device(api.MaxWords, ofGeometry(g)))
	}
}

func TestReadOfAnotherLength(t *testing.T) {
	g := geometry.Geometry{Blocks: 10, Inodes: 3, Size: 64}
	for words := range 400 {
		if words != 144 {
			mustNotRead(t, device(words, ofGeometry(g)))
		}
	}
	mustNotRead(t, pm.New(144))
	mustNotRead(t, pm.New(0))
	mustNotRead(t, pm.New(-5))
	mustNotRead(t, pm.Of(nil))
	mustNotRead(t, device(api.MaxWords, ofGeometry(g)))
}

func TestReadIsOfTheFirstWordsAlone(t *testing.T) {
	g := geometry.Geometry{Blocks: 10, Inodes: 3, Size: 64}
	l := ofGeometry(g)
	for at := 1; at < 20; at++ {
		words := make([]uint64, 144)
		copy(words[at:], l)
		mustNotRead(t, pm.Of(words))
	}
	d := pm.Of(append(slices.Clone(l), slices.Repeat([]uint64{math.MaxUint64}, 136)...))
	if h, e := Read(d); e != api.OK || h != g {
		t.Error(h, e)
	}
}

func TestReadOfADamagedDevice(t *testing.T) {
	g := geometry.Geometry{Blocks: 10, Inodes: 3, Size: 64}
	for w := range 8 {
		for bit := range 64 {
			l := ofGeometry(g)
			l[w] ^= 1 << bit
			mustNotRead(t, device(144, l))
		}
	}
	for _, h := range mayNot() {
		mustNotRead(t, device(144, ofGeometry(h)))
		mustNotRead(t, device(0, ofGeometry(h)))
	}
}

func TestReadOfWordsAsTheyAreSeen(t *testing.T) {
	g, h := geometry.Geometry{Blocks: 10, Inodes: 3, Size: 64}, geometry.Geometry{Blocks: 3, Inodes: 11, Size: 64}
	if g.Words() != 144 || h.Words() != 144 {
		t.Fatal(g.Words(), h.Words())
	}
	d := pm.New(144)
	for w, x := range ofGeometry(g) {
		mustNotRead(t, d)
		d.Store(w, x)
	}
	mustRead := func(want geometry.Geometry) {
		t.Helper()
		if got, e := Read(d); e != api.OK || got != want {
			t.Errorf("%v, %d, want %v", got, e, want)
		}
	}
	mustRead(g)
	c := d.Copy()
	c.Crash()
	mustNotRead(t, c)
	d.Flush(0)
	d.Fence()
	mustRead(g)
	// What lasts is one geometry's, what is seen another's.
	for w, x := range ofGeometry(h) {
		d.Store(w, x)
	}
	mustRead(h)
	d.Arm(0)
	d.Store(0, 0)
	mustRead(h)
	d.Crash()
	mustRead(g)
	d.Store(5, 1)
	mustNotRead(t, d)
}

// P5.2: there and back, and nothing else

func TestThereAndBack(t *testing.T) {
	for _, g := range may() {
		l, e := Encode(g)
		if e != api.OK {
			t.Fatal(g, e)
		}
		mustBe(t, g, l)
	}
}

func TestOneSuperblockEach(t *testing.T) {
	seen := map[[8]uint64]geometry.Geometry{}
	for _, g := range may() {
		l, _ := Encode(g)
		if h, is := seen[[8]uint64(l)]; is && h != g {
			t.Errorf("%v and %v have one superblock", g, h)
		}
		seen[[8]uint64(l)] = g
	}
}

func TestWhatIsDecodedIsEncodedSo(t *testing.T) {
	n := numbers(4)
	decoded := 0
	for range 20000 {
		l := meant(n.next()>>49, n.next()>>49, uint64(64)<<n.upTo(7)>>1)
		g, e := Decode(l...)
		if e != api.OK {
			continue
		}
		decoded++
		if back, e := Encode(g); e != api.OK || !slices.Equal(back, l) {
			t.Errorf("%x: %v, then %x, %d", l, g, back, e)
		}
	}
	if decoded < 1000 {
		t.Error("hardly any was decoded:", decoded)
	}
}

// P5.2: memory

func TestWordsArentChangedOrKept(t *testing.T) {
	g := geometry.Geometry{Blocks: 10, Inodes: 3, Size: 64}
	room := slices.Repeat([]uint64{77}, 20)
	copy(room, ofGeometry(g))
	was := slices.Clone(room)
	mustBe(t, g, room[:8])
	mustBeNone(t, room[:9])
	mustBeNone(t, room[:7])
	if !slices.Equal(room, was) {
		t.Errorf("%x", room)
	}
	clear(room)
	mustBe(t, g, was[:8])
	mustBeNone(t, room[:8])
}

func TestAnswersAreNewMemory(t *testing.T) {
	g := geometry.Geometry{Blocks: 10, Inodes: 3, Size: 64}
	one, _ := Encode(g)
	other, _ := Encode(g)
	clear(one[:cap(one)])
	if !slices.Equal(other, ofGeometry(g)) {
		t.Errorf("%x", other)
	}
	if again, e := Encode(g); e != api.OK || !slices.Equal(again, ofGeometry(g)) {
		t.Errorf("%x, %d", again, e)
	}
	mustBe(t, g, other)
}

func TestADeviceIsntChanged(t *testing.T) {
	g := geometry.Geometry{Blocks: 10, Inodes: 3, Size: 64}
	d := device(144, ofGeometry(g))
	d.Store(20, 5)
	d.Arm(3)
	steps, stores, words := d.Steps(), d.Stores(), d.Words()
	Read(d)
	d.Store(3, 1)
	Read(d)
	if d.Steps() != steps+1 || d.Stores() != stores+1 || d.Down() {
		t.Error(d.Steps(), d.Stores(), d.Down())
	}
	words[3] = 1
	if !slices.Equal(d.Words(), words) || !slices.Equal(d.May(20), []uint64{0, 5}) || !slices.Equal(d.May(3), []uint64{0, 1}) {
		t.Error(d.Words(), d.May(20), d.May(3))
	}
}
