package inode

import (
	"encoding/binary"
	"hash/crc32"
	"math"
	"math/bits"
	"slices"
	"testing"

	"cantle/api"
)

// numbers are many numbers, always the same ones.
type numbers uint64

func (n *numbers) next() uint64 {
	*n = *n*6364136223846793005 + 1442695040888963407
	return bits.RotateLeft64(uint64(*n), 29) ^ uint64(*n)
}

// upTo is a number from 1 to a greatest one.
func (n *numbers) upTo(greatest int) int { return 1 + int(n.next()>>8%uint64(greatest)) }

// summed are some words, and in place of the last one the sum that fits.
func summed(l []uint64) []uint64 {
	var b []byte
	ahead := l[:len(l)-1]
	for _, x := range ahead {
		b = binary.LittleEndian.AppendUint64(b, x)
	}
	return append(slices.Clone(ahead), uint64(crc32.ChecksumIEEE(b)))
}

// meant is a line with a sum, by its meaning, of a first word and a second one, whether or not they may be.
func meant(first, size uint64) []uint64 {
	return summed([]uint64{first, size, 0, 0, 0, 0, 0, 0})
}

// ofInode is the line of an inode by its meaning, whether or not it may be.
func ofInode(n Inode) []uint64 {
	if n == (Inode{Free, -1, 0}) {
		return make([]uint64, 8)
	}
	return meant(uint64(n.Kind)+uint64(n.Head+1)<<16, uint64(n.Size))
}

// may are inodes that may be: of every kind, each number at its least and its greatest, and many between.
func may() []Inode {
	l := []Inode{{Free, -1, 0}, {File, -1, 0}, {Dir, -1, 0}, {File, 2, 5}, {Dir, 0, 128}}
	for _, head := range []int{0, 1, 254, 255, 256, 32766, 32767, 32768, 65532, 65533} {
		for _, size := range []int{1, 2, 63, 64, 65, 100, 255, 256, 65535, 65536, 1<<28 - 64, 1<<28 - 1, 1 << 28} {
			l = append(l, Inode{File, head, size})
		}
		for _, size := range []int{64, 128, 192, 256, 65472, 65536, 1<<28 - 64, 1 << 28} {
			l = append(l, Inode{Dir, head, size})
		}
	}
	n := numbers(1)
	for range 200 {
		l = append(l, Inode{File, n.upTo(65534) - 1, n.upTo(1 << 28)}, Inode{Dir, n.upTo(65534) - 1, n.upTo(1<<22) * 64})
	}
	return l
}

// mayNot are inodes that may not be, but whose numbers a line could tell.
func mayNot() []Inode {
	l := []Inode{
		// A free one with more than none: the zero value is one of them.
		{}, {Free, 0, 1}, {Free, 0, 64}, {Free, 5, 0}, {Free, 65533, 1 << 28}, {Free, 65534, 0}, {Free, -1, 1}, {Free, -1, 64}, {Free, -1, 1 << 28}, {Free, -1, math.MaxInt},
		// Kinds that are none.
		{3, -1, 0}, {3, 1, 64}, {4, 1, 64}, {256, 1, 64}, {257, 1, 64}, {65535, -1, 0}, {65535, 1, 64},
	}
	for _, kind := range []Kind{File, Dir} {
		for _, head := range []int{0, 1, 65533} {
			l = append(l, Inode{kind, head, 0}, Inode{kind, head, 1<<28 + 1}, Inode{kind, head, 1<<28 + 64}, Inode{kind, head, 1 << 29}, Inode{kind, head, 1<<32 + 64}, Inode{kind, head, math.MaxInt})
		}
		for _, size := range []int{1, 64, 1 << 28, 1<<28 + 1, 1<<28 + 64, math.MaxInt} {
			l = append(l, Inode{kind, -1, size})
		}
		for _, size := range []int{0, 1, 64, 1 << 28, 1<<28 + 1} {
			l = append(l, Inode{kind, 65534, size})
		}
	}
	for _, size := range []int{1, 2, 8, 32, 63, 65, 100, 127, 129, 1<<28 - 1, 1<<28 - 32, 1<<28 - 63} {
		l = append(l, Inode{Dir, 0, size}, Inode{Dir, 65533, size})
	}
	return l
}

// cannot are inodes with numbers that a line's fields can't tell: some of them would, cut to 16 bits or run into the next field, be one that may be.
func cannot() []Inode {
	var l []Inode
	for _, kind := range []Kind{-1, -2, -65535, math.MinInt, math.MaxInt, math.MaxInt32, math.MinInt32, 1 + 1<<16, 1 + 3<<16, 2 + 1<<32, 1 << 16, 1 << 32} {
		l = append(l, Inode{kind, 2, 64}, Inode{kind, -1, 0}, Inode{kind, 0, 0})
	}
	for _, kind := range []Kind{Free, File, Dir} {
		for _, head := range []int{-2, -3, -65535, 65535, 65536, 1<<16 + 2, 1<<32 + 2, 1<<48 - 1, math.MinInt, math.MaxInt, math.MinInt32, math.MaxInt32} {
			l = append(l, Inode{kind, head, 0}, Inode{kind, head, 64})
		}
		for _, size := range []int{-1, -64, -1 << 28, math.MinInt, math.MinInt + 64, math.MinInt32} {
			l = append(l, Inode{kind, -1, size}, Inode{kind, 2, size})
		}
	}
	return l
}

// mustBe fails, unless the words are an inode's line.
func mustBe(t *testing.T, n Inode, l []uint64) {
	t.Helper()
	if m, e := Decode(l...); e != api.OK || m != n {
		t.Errorf("Decode of %v's %x: %v, %d", n, l, m, e)
	}
}

// mustBeNone fails, unless the words are no line: what stands beside the error is the free one, not the zero value.
func mustBeNone(t *testing.T, l []uint64) {
	t.Helper()
	if n, e := Decode(l...); e != api.ErrForm || n != (Inode{Free, -1, 0}) {
		t.Errorf("Decode of %x: %v, %d", l, n, e)
	}
}

// P6.1: None and the kinds

func TestNoneIsFree(t *testing.T) {
	if n := None(); n != (Inode{Kind: 0, Head: -1, Size: 0}) || !n.May() {
		t.Error(n, n.May())
	}
	if None() == (Inode{}) {
		t.Error("the free one has a Head")
	}
	if Free != 0 || File != 1 || Dir != 2 {
		t.Error(Free, File, Dir)
	}
}

// P6.1: May

func TestMay(t *testing.T) {
	for _, n := range may() {
		if !n.May() {
			t.Error(n)
		}
	}
}

func TestMayNot(t *testing.T) {
	for _, n := range append(mayNot(), cannot()...) {
		if n.May() {
			t.Error(n)
		}
	}
}

// TestMayAtTheEdges holds each of the three numbers against its own ends, the others being as they may.
func TestMayAtTheEdges(t *testing.T) {
	for kind := Kind(-3); kind < 6; kind++ {
		if got, want := (Inode{kind, 1, 64}).May(), kind == 1 || kind == 2; got != want {
			t.Error(kind, got)
		}
		if got, want := (Inode{kind, -1, 0}).May(), kind >= 0 && kind <= 2; got != want {
			t.Error(kind, got)
		}
	}
	for _, c := range []struct {
		head             int
		without, withAny bool
	}{{math.MinInt, false, false}, {-2, false, false}, {-1, true, false}, {0, false, true}, {1, false, true}, {65532, false, true}, {65533, false, true}, {65534, false, false}, {65535, false, false}, {math.MaxInt, false, false}} {
		for _, kind := range []Kind{File, Dir} {
			if (Inode{kind, c.head, 0}).May() != c.without || (Inode{kind, c.head, 64}).May() != c.withAny {
				t.Error(kind, c)
			}
		}
		if (Inode{Free, c.head, 0}).May() != c.without || (Inode{Free, c.head, 64}).May() {
			t.Error(c)
		}
	}
	for _, c := range []struct {
		size      int
		file, dir bool
	}{{math.MinInt, false, false}, {-64, false, false}, {-1, false, false}, {0, false, false}, {1, true, false}, {63, true, false}, {64, true, true}, {65, true, false}, {128, true, true}, {1<<28 - 64, true, true}, {1<<28 - 1, true, false}, {1 << 28, true, true}, {1<<28 + 1, false, false}, {1<<28 + 64, false, false}, {math.MaxInt, false, false}} {
		if (Inode{File, 7, c.size}).May() != c.file || (Inode{Dir, 7, c.size}).May() != c.dir || (Inode{Free, 7, c.size}).May() {
			t.Error(c)
		}
		// Without a Head there are no bytes, and the other way round.
		for _, kind := range []Kind{Free, File, Dir} {
			if (Inode{kind, -1, c.size}).May() != (c.size == 0) {
				t.Error(kind, c.size)
			}
		}
	}
	for size := range 1000 {
		if (Inode{Dir, 7, size}).May() != (size > 0 && size%64 == 0) || (Inode{File, 7, size}).May() != (size > 0) {
			t.Error(size)
		}
	}
}

// P6.1: Encode

func TestEncodeIsTheLine(t *testing.T) {
	for _, n := range may() {
		l, e := Encode(n)
		if want := ofInode(n); e != api.OK || !slices.Equal(l, want) {
			t.Errorf("Encode(%v): %x, %d, want %x", n, l, e, want)
		}
	}
}

func TestEncodeByHand(t *testing.T) {
	l, e := Encode(Inode{File, 2, 5})
	if e != api.OK || len(l) != 8 || l[0] != 196609 || l[1] != 5 || !slices.Equal(l[2:7], make([]uint64, 5)) {
		t.Fatal(l, e)
	}
	b := make([]byte, 56)
	b[0], b[2], b[8] = 1, 3, 5
	if l[7] != uint64(crc32.ChecksumIEEE(b)) {
		t.Errorf("%x", l[7])
	}
	l, e = Encode(None())
	if e != api.OK || !slices.Equal(l, make([]uint64, 8)) {
		t.Error(l, e)
	}
	l, e = Encode(Inode{Dir, -1, 0})
	if e != api.OK || len(l) != 8 || l[0] != 2 || !slices.Equal(l[1:7], make([]uint64, 6)) || l[7] == 0 {
		t.Error(l, e)
	}
	l, e = Encode(Inode{Dir, 65533, 1 << 28})
	if e != api.OK || len(l) != 8 || l[0] != 2+65534*65536 || l[1] != 268435456 {
		t.Error(l, e)
	}
}

func TestEncodeOfWhatMayNotBe(t *testing.T) {
	for _, n := range append(mayNot(), cannot()...) {
		if l, e := Encode(n); e != api.ErrArg || len(l) != 0 {
			t.Errorf("Encode(%v): %x, %d", n, l, e)
		}
	}
}

// P6.1: Decode

func TestDecodeTellsTheInode(t *testing.T) {
	for _, n := range may() {
		mustBe(t, n, ofInode(n))
	}
	mustBe(t, None(), make([]uint64, 8))
}

func TestDecodeOfAnotherCount(t *testing.T) {
	mustBeNone(t, nil)
	mustBeNone(t, []uint64{})
	for _, n := range []Inode{{Free, -1, 0}, {File, -1, 0}, {File, 2, 5}, {Dir, 0, 128}} {
		l := ofInode(n)
		for count := range 8 {
			mustBeNone(t, l[:count])
			mustBeNone(t, l[8-count:])
		}
		mustBeNone(t, append(slices.Clone(l), 0))
		mustBeNone(t, append(slices.Clone(l), l[7]))
		mustBeNone(t, append([]uint64{0}, l...))
		mustBeNone(t, append(slices.Clone(l), l...))
		mustBeNone(t, append(slices.Clone(l), make([]uint64, 1000)...))
		// A nought too few, or one too many, with the sum as it was and with one that fits.
		for _, other := range [][]uint64{slices.Delete(slices.Clone(l), 3, 4), slices.Insert(slices.Clone(l), 3, 0)} {
			mustBeNone(t, other)
			mustBeNone(t, summed(other))
		}
	}
}

func TestDecodeOfOtherWords(t *testing.T) {
	mustBeNone(t, slices.Repeat([]uint64{math.MaxUint64}, 8))
	// The free one's line has no sum, not even the one that would fit.
	mustBeNone(t, summed(make([]uint64, 8)))
	n := numbers(2)
	for range 200 {
		var l []uint64
		for range 8 {
			l = append(l, n.next())
		}
		mustBeNone(t, l)
		mustBeNone(t, summed(l))
		l[0], l[1] = 1+3<<16, 5
		mustBeNone(t, summed(l))
	}
}

func TestDecodeOfEachBitTurned(t *testing.T) {
	for _, n := range append([]Inode{{Free, -1, 0}, {File, 65533, 1 << 28}, {Dir, 65533, 1 << 28}}, may()[:20]...) {
		l := ofInode(n)
		for w := range l {
			for bit := range 64 {
				turned := slices.Clone(l)
				turned[w] ^= 1 << bit
				mustBeNone(t, turned)
			}
		}
	}
}

func TestDecodeOfTwoBitsTurned(t *testing.T) {
	n := numbers(3)
	for _, l := range [][]uint64{ofInode(Inode{File, 2, 5}), ofInode(Inode{Dir, 7, 128})} {
		for range 3000 {
			turned := slices.Clone(l)
			one, other := n.upTo(512)-1, n.upTo(512)-1
			if one == other {
				continue
			}
			turned[one/64] ^= 1 << (one % 64)
			turned[other/64] ^= 1 << (other % 64)
			mustBeNone(t, turned)
		}
	}
}

// TestDecodeOfABitTurnedWithASumThatFits: words that must be 0 are, and what the first two tell is an inode that may be.
func TestDecodeOfABitTurnedWithASumThatFits(t *testing.T) {
	for _, n := range []Inode{{Free, -1, 0}, {File, -1, 0}, {Dir, -1, 0}, {File, 2, 5}, {File, 65533, 1 << 28}, {Dir, 0, 128}} {
		l := ofInode(n)
		for w := range 7 {
			for bit := range 64 {
				turned := slices.Clone(l)
				turned[w] ^= 1 << bit
				turned = summed(turned)
				kind, head, size := turned[0]&65535, turned[0]>>16&65535, turned[1]
				m := Inode{Kind(kind), int(head) - 1, int(size)}
				if w < 2 && turned[0]>>32 == 0 && size <= 1<<28 && kind != 0 && m.May() {
					mustBe(t, m, turned)
				} else {
					mustBeNone(t, turned)
				}
			}
		}
	}
}

func TestDecodeOfASumWithMoreAbove(t *testing.T) {
	l := ofInode(Inode{File, 2, 5})
	for _, more := range []uint64{1 << 32, l[7] << 32, math.MaxUint32 << 32} {
		above := slices.Clone(l)
		above[7] |= more
		mustBeNone(t, above)
	}
	for _, sum := range []uint64{0, ^l[7], l[7] ^ math.MaxUint32, l[7] + 1, l[7] - 1, math.MaxUint64} {
		other := slices.Clone(l)
		other[7] = sum
		mustBeNone(t, other)
	}
}

func TestDecodeOfAnInodeThatMayNotBe(t *testing.T) {
	for _, n := range mayNot() {
		l := ofInode(n)
		mustBeNone(t, l)
		// Nor without a sum, as the free one's line is.
		l[7] = 0
		mustBeNone(t, l)
	}
	// Bits above the fields, and a Size that is below 0 as an int.
	for _, more := range []uint64{1, 1 << 15, 65535, math.MaxUint32} {
		mustBeNone(t, meant(1+3<<16+more<<32, 5))
	}
	for _, size := range []uint64{1 << 63, 1<<63 + 5, 1<<63 + 64, math.MaxUint64, math.MaxUint64 - 63, 1<<32 + 5, 1<<28 + 1} {
		mustBeNone(t, meant(1+3<<16, size))
		mustBeNone(t, meant(2+3<<16, size))
		mustBeNone(t, meant(1, size))
		mustBeNone(t, meant(0, size))
	}
}

// P6.2: there and back, and nothing else

func TestThereAndBack(t *testing.T) {
	for _, n := range may() {
		l, e := Encode(n)
		if e != api.OK {
			t.Fatal(n, e)
		}
		mustBe(t, n, l)
	}
	for head := range 65534 {
		n := Inode{File, head, 1 + head*4097%(1<<28)}
		l, e := Encode(n)
		if e != api.OK {
			t.Fatal(n, e)
		}
		mustBe(t, n, l)
	}
}

func TestOneLineEach(t *testing.T) {
	seen := map[[8]uint64]Inode{}
	for _, n := range may() {
		l, _ := Encode(n)
		if m, is := seen[[8]uint64(l)]; is && m != n {
			t.Errorf("%v and %v have one line", n, m)
		}
		seen[[8]uint64(l)] = n
	}
}

func TestWhatIsDecodedIsEncodedSo(t *testing.T) {
	n := numbers(4)
	decoded := 0
	for range 20000 {
		l := meant(n.next()>>62+n.next()>>48<<16, n.next()>>35)
		m, e := Decode(l...)
		if e != api.OK {
			continue
		}
		decoded++
		if back, e := Encode(m); e != api.OK || !slices.Equal(back, l) || !m.May() {
			t.Errorf("%x: %v, then %x, %d", l, m, back, e)
		}
	}
	if decoded < 1000 {
		t.Error("hardly any was decoded:", decoded)
	}
}

// P6.2: memory

func TestWordsArentChangedOrKept(t *testing.T) {
	n := Inode{File, 2, 5}
	room := slices.Repeat([]uint64{77}, 20)
	copy(room, ofInode(n))
	was := slices.Clone(room)
	mustBe(t, n, room[:8])
	mustBeNone(t, room[:9])
	mustBeNone(t, room[:7])
	if !slices.Equal(room, was) {
		t.Errorf("%x", room)
	}
	clear(room)
	mustBe(t, n, was[:8])
	mustBe(t, None(), room[:8])
}

func TestAnswersAreNewMemory(t *testing.T) {
	for _, n := range []Inode{{Free, -1, 0}, {File, 2, 5}, {Dir, -1, 0}} {
		one, _ := Encode(n)
		other, _ := Encode(n)
		for i := range one[:cap(one)] {
			one[:cap(one)][i] = 99
		}
		if !slices.Equal(other, ofInode(n)) {
			t.Errorf("%x", other)
		}
		if again, e := Encode(n); e != api.OK || !slices.Equal(again, ofInode(n)) {
			t.Errorf("%x, %d", again, e)
		}
		mustBe(t, n, other)
	}
}
