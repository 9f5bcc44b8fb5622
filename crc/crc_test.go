package crc

import (
	"encoding/binary"
	"hash/crc32"
	"math"
	"math/bits"
	"slices"
	"testing"
)

// numbers are many numbers, always the same ones.
type numbers uint64

func (n *numbers) next() uint64 {
	*n = *n*6364136223846793005 + 1442695040888963407
	return bits.RotateLeft64(uint64(*n), 29) ^ uint64(*n)
}

// some are so many bytes.
func (n *numbers) some(count int) []byte {
	l := make([]byte, count)
	for k := range l {
		l[k] = byte(n.next() >> 7)
	}
	return l
}

// words are so many words.
func (n *numbers) words(count int) []uint64 {
	l := make([]uint64, count)
	for k := range l {
		l[k] = n.next()
	}
	return l
}

// divided is the CRC-16 by its meaning: the rest of a long division, digit by digit, of the bits with 16 noughts behind them and the first 16 turned over.
func divided(l []byte) uint16 {
	digits := make([]bool, 8*len(l)+16)
	for k := range 8 * len(l) {
		digits[k] = l[k/8]>>(7-k%8)&1 == 1
	}
	for k := range 16 {
		digits[k] = !digits[k]
	}
	for k := range 8 * len(l) {
		if digits[k] {
			for _, power := range []int{16, 12, 5, 0} {
				digits[k+16-power] = !digits[k+16-power]
			}
		}
	}
	rest := uint16(0)
	for _, one := range digits[8*len(l):] {
		rest <<= 1
		if one {
			rest |= 1
		}
	}
	return rest
}

// cut are bytes in parts, with a cut behind byte k if bit k says so.
func cut(l []byte, at uint) [][]byte {
	parts := [][]byte{nil}
	for k, b := range l {
		last := len(parts) - 1
		parts[last] = append(parts[last], b)
		if at>>k&1 == 1 {
			parts = append(parts, []byte{})
		}
	}
	return parts
}

// turned are bytes with the bits of a pattern turned, from a bit on. Bits are counted as a sum takes them: of each byte from the lowest one on, or from the highest.
func turned(l []byte, from int, pattern uint64, lowest bool) []byte {
	l = slices.Clone(l)
	for ; pattern != 0; pattern &= pattern - 1 {
		at := from + bits.TrailingZeros64(pattern)
		if lowest {
			l[at/8] ^= 1 << (at % 8)
		} else {
			l[at/8] ^= 0x80 >> (at % 8)
		}
	}
	return l
}

// P2.1

func TestSumsThatAreKnown(t *testing.T) {
	for _, c := range []struct {
		text  string
		sum32 uint32
		sum16 uint16
	}{
		{"", 0, 0xFFFF},
		{"123456789", 0xCBF43926, 0x29B1},
		{"A", 0xD3D99E8B, 0xB915},
		{"a", 0xE8B7BE43, 0x9D77},
		{"\x00", 0xD202EF8D, 0xE1F0},
		{"\xFF", 0xFF000000, 0xFF00},
		{"\x00\x00\x00\x00", 0x2144DF1C, 0x84C0},
		{"\xFF\xFF\xFF\xFF", 0xFFFFFFFF, 0x1D0F},
	} {
		if got := Sum32([]byte(c.text)); got != c.sum32 {
			t.Errorf("Sum32(%q): %#x, want %#x", c.text, got, c.sum32)
		}
		if got := Sum16([]byte(c.text)); got != c.sum16 {
			t.Errorf("Sum16(%q): %#x, want %#x", c.text, got, c.sum16)
		}
	}
}

func TestSumsOfAnyBytes(t *testing.T) {
	n := numbers(1)
	for count := range 300 {
		l := n.some(count)
		if got, want := Sum32(l), crc32.ChecksumIEEE(l); got != want {
			t.Fatalf("Sum32(%x): %#x, want %#x", l, got, want)
		}
		if got, want := Sum16(l), divided(l); got != want {
			t.Fatalf("Sum16(%x): %#x, want %#x", l, got, want)
		}
	}
}

func TestSumsOfEachByte(t *testing.T) {
	for b := range 256 {
		l := []byte{byte(b)}
		if Sum32(l) != crc32.ChecksumIEEE(l) || Sum16(l) != divided(l) {
			t.Errorf("byte %d: %#x, %#x", b, Sum32(l), Sum16(l))
		}
	}
}

func TestSumsOfManyBytes(t *testing.T) {
	n := numbers(2)
	l := n.some(1<<20 + 3)
	if Sum32(l) != crc32.ChecksumIEEE(l) || Sum16(l) != divided(l) {
		t.Errorf("%#x, %#x", Sum32(l), Sum16(l))
	}
}

func TestPartsAreSummedAsOneHoweverTheyAreCut(t *testing.T) {
	l := []byte("123456789")
	for at := range uint(1 << len(l)) {
		parts := cut(l, at)
		if got := Sum32(parts...); got != 0xCBF43926 {
			t.Fatalf("Sum32(%q): %#x", parts, got)
		}
		if got := Sum16(parts...); got != 0x29B1 {
			t.Fatalf("Sum16(%q): %#x", parts, got)
		}
	}
}

func TestPartsAreSummedInTheirOrder(t *testing.T) {
	a, b := []byte("1234"), []byte("56789")
	if Sum32(b, a) != crc32.ChecksumIEEE([]byte("567891234")) || Sum16(b, a) != divided([]byte("567891234")) {
		t.Errorf("%#x, %#x", Sum32(b, a), Sum16(b, a))
	}
}

func TestPartsWithoutBytesAreAsNone(t *testing.T) {
	for _, parts := range [][][]byte{nil, {}, {nil}, {{}}, {nil, {}, nil}} {
		if Sum32(parts...) != 0 || Sum16(parts...) != 0xFFFF {
			t.Errorf("%v: %#x, %#x", parts, Sum32(parts...), Sum16(parts...))
		}
	}
	l := []byte{0}
	if Sum32(nil, l, nil) != 0xD202EF8D || Sum16(nil, l, nil) != 0xE1F0 {
		t.Errorf("%#x, %#x", Sum32(nil, l, nil), Sum16(nil, l, nil))
	}
}

func TestAPartMayComeTwice(t *testing.T) {
	l := []byte("abc")
	if Sum32(l, l) != crc32.ChecksumIEEE([]byte("abcabc")) || Sum16(l, l) != divided([]byte("abcabc")) {
		t.Errorf("%#x, %#x", Sum32(l, l), Sum16(l, l))
	}
}

func TestWordsAreSummedTheLowestByteFirst(t *testing.T) {
	const x = 0x3837363534333231
	if Words32(x) != crc32.ChecksumIEEE([]byte("12345678")) || Words16(x) != divided([]byte("12345678")) {
		t.Errorf("%#x, %#x", Words32(x), Words16(x))
	}
	for k := range 64 {
		l := binary.LittleEndian.AppendUint64(nil, 1<<k)
		if Words32(1<<k) != crc32.ChecksumIEEE(l) || Words16(1<<k) != divided(l) {
			t.Errorf("bit %d: %#x, %#x", k, Words32(1<<k), Words16(1<<k))
		}
	}
}

func TestWordsOfAnyNumber(t *testing.T) {
	n := numbers(3)
	for count := range 40 {
		words, l := n.words(count), []byte(nil)
		for _, x := range words {
			l = binary.LittleEndian.AppendUint64(l, x)
		}
		if got, want := Words32(words...), crc32.ChecksumIEEE(l); got != want {
			t.Fatalf("Words32(%x): %#x, want %#x", words, got, want)
		}
		if got, want := Words16(words...), divided(l); got != want {
			t.Fatalf("Words16(%x): %#x, want %#x", words, got, want)
		}
		if Words32(words...) != Sum32(l) || Words16(words...) != Sum16(l) {
			t.Fatalf("%x: the words' sums aren't those of their bytes", words)
		}
	}
}

func TestWordsAtTheirEnds(t *testing.T) {
	if Words32() != 0 || Words16() != 0xFFFF {
		t.Errorf("none: %#x, %#x", Words32(), Words16())
	}
	for _, x := range []uint64{0, 1, math.MaxInt64, 1 << 63, math.MaxUint64} {
		l := binary.LittleEndian.AppendUint64(nil, x)
		if Words32(x, x) != crc32.ChecksumIEEE(slices.Concat(l, l)) || Words16(x, x) != divided(slices.Concat(l, l)) {
			t.Errorf("%#x: %#x, %#x", x, Words32(x, x), Words16(x, x))
		}
	}
}

func TestWordsAreSummedInTheirOrder(t *testing.T) {
	if Words32(1, 2) == Words32(2, 1) || Words16(1, 2) == Words16(2, 1) {
		t.Error("the order isn't told")
	}
}

// P2.2

// In whichever order the bits of a byte are counted.
func TestSum16TellsEveryTurnOf16Neighbours(t *testing.T) {
	n := numbers(4)
	l := n.some(5)
	for _, lowest := range []bool{false, true} {
		for from := range 8 * len(l) {
			if pattern := untold16(l, from, lowest); pattern != 0 {
				t.Fatalf("bits %#x from %d on, lowest first %t: not told", pattern, from, lowest)
			}
		}
	}
}

// untold16 is a pattern of at most 16 bits that Sum16 doesn't tell, or 0. Patterns without their first bit are those of a later place.
func untold16(l []byte, from int, lowest bool) uint64 {
	want := Sum16(l)
	for pattern := uint64(1); pattern < 1<<16 && from+bits.Len64(pattern) <= 8*len(l); pattern += 2 {
		if Sum16(turned(l, from, pattern, lowest)) == want {
			return pattern
		}
	}
	return 0
}

// Neighbours are those of the order in which Sum32 takes the bits, which is that of a word, too.
func TestSum32TellsTurnsOf32Neighbours(t *testing.T) {
	n := numbers(5)
	l := n.some(24)
	want := Sum32(l)
	patterns := []uint64{1, 3, 1<<31 | 1, 1<<32 - 1, 0xEDB88320, 0xEDB88321, 0x04C11DB7}
	for range 500 {
		patterns = append(patterns, n.next()>>32|1)
	}
	for from := range 8 * len(l) {
		for _, pattern := range patterns {
			if from+bits.Len64(pattern) <= 8*len(l) && Sum32(turned(l, from, pattern, true)) == want {
				t.Fatalf("bits %#x from %d on: not told", pattern, from)
			}
		}
	}
}

// One bit more than is promised: turned by the whole polynomial, nothing is told. So the sums are just these, and the bound is sharp.
func TestTheWholePolynomialIsNotTold(t *testing.T) {
	n := numbers(6)
	l := n.some(24)
	for from := range 8*len(l) - 32 {
		if Sum32(turned(l, from, 0xEDB88320<<1|1, true)) != Sum32(l) {
			t.Fatalf("Sum32 from %d on", from)
		}
		if Sum16(turned(l, from, 0x8408<<1|1, false)) != Sum16(l) {
			t.Fatalf("Sum16 from %d on", from)
		}
	}
}

func TestOneTurnedBitIsToldInManyBytes(t *testing.T) {
	n := numbers(7)
	l := n.some(600)
	sum32, sum16 := Sum32(l), Sum16(l)
	for at := range 8 * len(l) {
		m := turned(l, at, 1, true)
		if Sum32(m) == sum32 || Sum16(m) == sum16 {
			t.Fatalf("bit %d: not told", at)
		}
	}
}

func TestOneTurnedBitIsToldInWords(t *testing.T) {
	n := numbers(8)
	words := n.words(8)
	sum32, sum16 := Words32(words...), Words16(words...)
	for at := range 64 * len(words) {
		words[at/64] ^= 1 << (at % 64)
		if Words32(words...) == sum32 || Words16(words...) == sum16 {
			t.Fatalf("bit %d: not told", at)
		}
		words[at/64] ^= 1 << (at % 64)
	}
}

func TestNoughtsAtTheFrontAndBehindAreTold(t *testing.T) {
	l := []byte("x")
	for count := 1; count < 40; count++ {
		noughts := make([]byte, count)
		if Sum32(noughts, l) == Sum32(l) || Sum16(noughts, l) == Sum16(l) || Sum32(l, noughts) == Sum32(l) || Sum16(l, noughts) == Sum16(l) {
			t.Errorf("%d noughts: not told", count)
		}
	}
}

func TestWhatIsHandedInIsNotChanged(t *testing.T) {
	n := numbers(9)
	room, words := n.some(64), n.words(16)
	wantRoom, wantWords := slices.Clone(room), slices.Clone(words)
	// All parts have spare room behind them: what follows them there stays, too.
	parts := [][]byte{room[:8], nil, room[16:17], room[40:50], nil}
	Sum32(parts[:4]...)
	Sum16(parts[:4]...)
	Words32(words[:4]...)
	Words16(words[:4]...)
	if !slices.Equal(room, wantRoom) || !slices.Equal(words, wantWords) {
		t.Error("bytes or words were changed")
	}
	if len(parts) != 5 || len(parts[0]) != 8 || parts[1] != nil || &parts[2][0] != &room[16] || len(parts[3]) != 10 || parts[4] != nil {
		t.Error("the list of parts was changed")
	}
}

func TestWhatIsHandedInIsNotKept(t *testing.T) {
	l, words := []byte("123456789"), []uint64{1, 2, 3}
	parts := [][]byte{l[:4], l[4:]}
	sum32, sum16 := Words32(words...), Words16(words...)
	for range 2 {
		if Sum32(parts...) != 0xCBF43926 || Sum16(parts...) != 0x29B1 || Words32(words...) != sum32 || Words16(words...) != sum16 {
			t.Fatal("what was summed before is heard")
		}
		// Other things in the same memory, then the first ones again.
		copy(l, "987654321")
		words[0] = 9
		if Sum32(parts...) != crc32.ChecksumIEEE(l) || Sum16(parts...) != divided(l) || Words32(words...) == sum32 || Words16(words...) == sum16 {
			t.Fatal("what was handed in before is summed")
		}
		copy(l, "123456789")
		words[0] = 1
	}
}
