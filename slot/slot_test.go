package slot

import (
	"math"
	"math/bits"
	"testing"

	"cantle/api"
)

// numbers are many numbers, always the same ones.
type numbers uint64

func (n *numbers) next() uint64 {
	*n = *n*6364136223846793005 + 1442695040888963407
	return bits.RotateLeft64(uint64(*n), 29) ^ uint64(*n)
}

// below is a number from 0 on, below an end.
func (n *numbers) below(end int) int { return int(n.next() >> 8 % uint64(end)) }

// sum16 is the CRC-16 of CCITT of the lowest 6 bytes of a word, by its meaning: what is left of their bits, with 16 noughts behind them, divided by the polynomial. That it is begun with 16 ones is that the first 16 bits are turned over.
func sum16(x uint64) uint64 {
	x ^= 0xFFFF
	left := uint64(0)
	for at := range 8 {
		b := uint64(0)
		if at < 6 {
			b = x >> (8 * at) & 255
		}
		for k := 7; k >= 0; k-- {
			left = left<<1 | b>>k&1
			if left>>16 == 1 {
				left ^= 0x11021
			}
		}
	}
	return left
}

// meant is a word with the sum that fits, by its meaning, of three fields, whether or not they may be.
func meant(start, count, next uint64) uint64 {
	x := start + count<<16 + next<<32
	return x + sum16(x)<<48
}

// ofSlot is the word of a slot by its meaning, whether or not it may be.
func ofSlot(s Slot) uint64 {
	next := uint64(65535)
	if s.Next != -1 {
		next = uint64(s.Next)
	}
	return meant(uint64(s.Start), uint64(s.Count), next)
}

// may are slots that may be: each number at its least and its greatest, and many between.
func may() []Slot {
	l := []Slot{{1, 2, 3}, {0, 1, -1}, {0, 1, 0}, {0, 65534, -1}, {65533, 1, 65533}}
	for _, start := range []int{0, 1, 2, 254, 255, 256, 32766, 32767, 32768, 65531, 65532, 65533} {
		left := 65534 - start
		for _, count := range []int{1, 2, 255, 256, 257, 32767, 32768, left - 2, left - 1, left} {
			if count < 1 || count > left {
				continue
			}
			for _, next := range []int{-1, 0, 1, 255, 256, 32767, 32768, 65532, 65533} {
				l = append(l, Slot{start, count, next})
			}
		}
	}
	n := numbers(1)
	for range 300 {
		start := n.below(65534)
		l = append(l, Slot{start, 1 + n.below(65534-start), n.below(65535) - 1})
	}
	return l
}

// mayNot are slots that may not be, but whose numbers a word's fields could tell.
func mayNot() []Slot {
	var l []Slot
	for _, next := range []int{-1, 0, 3, 65533} {
		l = append(l,
			// Without blocks: the zero value is one of them.
			Slot{0, 0, next}, Slot{1, 0, next}, Slot{65533, 0, next}, Slot{65534, 0, next},
			// A Start that is none.
			Slot{65534, 1, next}, Slot{65535, 1, next}, Slot{65534, 65535, next}, Slot{65535, 65535, next},
			// More blocks than are left.
			Slot{0, 65535, next}, Slot{1, 65534, next}, Slot{1, 65535, next}, Slot{2, 65533, next}, Slot{32767, 32768, next}, Slot{32768, 32767, next}, Slot{32768, 32768, next}, Slot{65532, 3, next}, Slot{65533, 2, next}, Slot{65533, 65535, next},
		)
	}
	for _, s := range []Slot{{0, 1, 0}, {1, 2, 0}, {0, 65534, 0}, {65533, 1, 0}, {65534, 1, 0}, {0, 0, 0}} {
		l = append(l, Slot{s.Start, s.Count, 65534})
	}
	return l
}

// cannot are slots with numbers that a word's fields can't tell: some of them would, cut to 16 bits, wrapped round or run into the next field, be one that may be.
func cannot() []Slot {
	far := []int{-2, -3, -65533, -65534, -65535, -65536, 65536, 65537, 1<<16 + 3, 1<<32 + 3, 1<<48 + 3, 1<<63 - 65534, math.MinInt, math.MinInt + 1, math.MinInt + 65534, math.MaxInt - 1, math.MaxInt, math.MinInt32, math.MaxInt32, math.MaxUint32}
	l := []Slot{
		{-1, 1, -1}, {-1, 2, 0}, {-1, -1, -1}, {0, -1, -1}, {5, -1, -1}, {65533, -1, -1}, {-1, 65535, 3},
		// Sums that wrap round to one that would do, and the 65535 that a word has for no Next.
		{math.MaxInt, math.MaxInt, 3}, {math.MinInt, math.MinInt, 3}, {math.MaxInt, math.MinInt, 3}, {math.MinInt, math.MaxInt, 3}, {math.MinInt + 5, math.MinInt, 3},
		{-5, 10, 3}, {10, -5, 3}, {-100, 101, -1}, {0, 1, 65535}, {1, 2, 65535}, {65533, 1, 65535},
	}
	for _, n := range far {
		for _, next := range []int{-1, 0, 3, 65533} {
			l = append(l, Slot{n, 1, next}, Slot{n, 65534, next}, Slot{0, n, next}, Slot{65533, n, next}, Slot{n, n, next})
		}
		l = append(l, Slot{0, 1, n}, Slot{1, 2, n}, Slot{0, 65534, n}, Slot{65533, 1, n}, Slot{n, n, n})
	}
	return l
}

// none are all slots that may not be.
func none() []Slot { return append(mayNot(), cannot()...) }

// mustBe fails, unless the word is a slot's.
func mustBe(t *testing.T, s Slot, x uint64) {
	t.Helper()
	if got, e := Decode(x); e != api.OK || got != s {
		t.Errorf("Decode of %v's %x: %v, %d", s, x, got, e)
	}
}

// mustBeNone fails, unless the word is none's, and the zero value stands beside that.
func mustBeNone(t *testing.T, x uint64) {
	t.Helper()
	if s, e := Decode(x); e != api.ErrForm || s != (Slot{}) {
		t.Errorf("Decode of %x: %v, %d", x, s, e)
	}
}

// P7.1: May

func TestMay(t *testing.T) {
	for _, s := range may() {
		if !s.May() {
			t.Error(s)
		}
	}
}

func TestMayNot(t *testing.T) {
	for _, s := range none() {
		if s.May() {
			t.Error(s)
		}
	}
}

// TestMayAtTheEdges holds each of the three numbers against its own ends, the others being as they may.
func TestMayAtTheEdges(t *testing.T) {
	ends := []int{math.MinInt, math.MinInt + 1, -65536, -65535, -65534, -2, -1, 0, 1, 2, 32767, 65532, 65533, 65534, 65535, 65536, math.MaxInt - 65534, math.MaxInt - 1, math.MaxInt}
	for _, n := range ends {
		for _, next := range []int{-1, 0, 65533} {
			if got, want := (Slot{n, 1, next}).May(), n >= 0 && n <= 65533; got != want {
				t.Error("Start", n, next, got)
			}
			for _, start := range []int{0, 1, 100, 65532, 65533} {
				if got, want := (Slot{start, n, next}).May(), n >= 1 && n <= 65534-start; got != want {
					t.Error("Count", start, n, next, got)
				}
			}
		}
		for _, s := range []Slot{{0, 1, n}, {0, 65534, n}, {65533, 1, n}} {
			if got, want := s.May(), n >= -1 && n <= 65533; got != want {
				t.Error("Next", s, got)
			}
		}
	}
}

// TestMayAtEveryStart holds Count against just as many as are left, and one beyond.
func TestMayAtEveryStart(t *testing.T) {
	for start := range 65534 {
		left := 65534 - start
		if (Slot{start, 0, -1}).May() || !(Slot{start, 1, -1}).May() || !(Slot{start, left, 0}).May() || (Slot{start, left + 1, 0}).May() {
			t.Fatal(start)
		}
	}
}

// P7.1: End and Has

func TestEnd(t *testing.T) {
	for _, s := range may() {
		if s.End() != s.Start+s.Count {
			t.Error(s, s.End())
		}
	}
	for _, c := range []struct {
		s   Slot
		end int
	}{{Slot{0, 1, -1}, 1}, {Slot{5, 3, 0}, 8}, {Slot{65533, 1, 65533}, 65534}, {Slot{0, 65534, -1}, 65534}} {
		if got := c.s.End(); got != c.end {
			t.Error(c, got)
		}
	}
}

func TestEndOfWhatMayNotBe(t *testing.T) {
	for _, s := range none() {
		if got := s.End(); got != 0 {
			t.Error(s, got)
		}
	}
}

func TestHas(t *testing.T) {
	for _, s := range may() {
		first, last := s.Start, s.Start+s.Count-1
		for _, b := range []int{first, first + (last-first)/2, last} {
			if !s.Has(b) {
				t.Error(s, b)
			}
		}
		for _, b := range []int{first - 1, last + 1, -1, 65534, 65535, 1<<16 + first, 1<<32 + first, first - 1<<16, math.MinInt, math.MinInt + first, math.MaxInt} {
			if s.Has(b) {
				t.Error(s, b)
			}
		}
	}
}

func TestHasBlockByBlock(t *testing.T) {
	for _, s := range []Slot{{0, 1, -1}, {0, 4, 2}, {5, 3, 0}, {9, 1, 9}, {3, 12, -1}} {
		for b := -3; b < 20; b++ {
			if got, want := s.Has(b), b >= s.Start && b < s.Start+s.Count; got != want {
				t.Error(s, b, got)
			}
		}
	}
}

func TestHasOfWhatMayNotBe(t *testing.T) {
	for _, s := range none() {
		for _, b := range []int{s.Start, s.Start + 1, s.Start - 1, s.Start + s.Count, s.Start + s.Count - 1, 0, 1, 5, -1, 65533, 65534, math.MinInt, math.MaxInt} {
			if s.Has(b) {
				t.Error(s, b)
			}
		}
	}
}

// P7.1: Encode

// TestSumOfTheTestsIsTheOne holds the sum that these tests work out against one that is known: that of "123456".
func TestSumOfTheTestsIsTheOne(t *testing.T) {
	if got := sum16(0x363534333231); got != 0x2EF4 {
		t.Errorf("%x", got)
	}
}

func TestEncodeIsTheWord(t *testing.T) {
	for _, s := range may() {
		if x, e := Encode(s); e != api.OK || x != ofSlot(s) {
			t.Errorf("Encode(%v): %x, %d, want %x", s, x, e, ofSlot(s))
		}
	}
}

func TestEncodeByHand(t *testing.T) {
	for _, c := range []struct {
		s      Slot
		lowest uint64
	}{
		{Slot{1, 2, 3}, 1 + 2*65536 + 3*65536*65536},
		{Slot{0, 1, -1}, 0xFFFF_0001_0000},
		{Slot{0, 1, 0}, 0x0000_0001_0000},
		{Slot{65533, 1, 65533}, 0xFFFD_0001_FFFD},
		{Slot{0, 65534, -1}, 0xFFFF_FFFE_0000},
	} {
		x, e := Encode(c.s)
		if e != api.OK || x&(1<<48-1) != c.lowest || x>>48 != sum16(c.lowest) {
			t.Errorf("Encode(%v): %x, %d", c.s, x, e)
		}
	}
}

func TestEncodeOfWhatMayNotBe(t *testing.T) {
	for _, s := range none() {
		if x, e := Encode(s); e != api.ErrArg || x != 0 {
			t.Errorf("Encode(%v): %x, %d", s, x, e)
		}
	}
}

// P7.1: Decode

func TestDecodeTellsTheSlot(t *testing.T) {
	for _, s := range may() {
		mustBe(t, s, ofSlot(s))
	}
}

func TestDecodeOfOtherWords(t *testing.T) {
	for _, x := range []uint64{0, math.MaxUint64, 1, 1 << 16, 1 << 32, 1 << 63, math.MaxInt64, math.MaxUint32, math.MaxUint32 << 32, 0xFFFF << 48} {
		mustBeNone(t, x)
	}
}

func TestDecodeOfEachBitTurned(t *testing.T) {
	for _, s := range may() {
		for bit := range 64 {
			mustBeNone(t, ofSlot(s)^1<<bit)
		}
	}
}

// TestDecodeOfNeighbouringBitsTurned turns any bits of one field: they are 16 at most, in bytes that stand side by side, so that the sum tells.
func TestDecodeOfNeighbouringBitsTurned(t *testing.T) {
	n := numbers(2)
	for _, s := range may()[:50] {
		for field := range 4 {
			for range 100 {
				if turned := n.next() >> 48; turned != 0 {
					mustBeNone(t, ofSlot(s)^turned<<(16*field))
				}
			}
		}
	}
}

func TestDecodeOfEveryOtherSum(t *testing.T) {
	for _, s := range []Slot{{1, 2, 3}, {0, 1, -1}, {65533, 1, 65533}} {
		own := ofSlot(s)
		for sum := range uint64(65536) {
			if x := own&(1<<48-1) | sum<<48; x != own {
				mustBeNone(t, x)
			} else {
				mustBe(t, s, x)
			}
		}
	}
}

// TestDecodeOfASlotThatMayNotBe: a sum that fits is not enough.
func TestDecodeOfASlotThatMayNotBe(t *testing.T) {
	for _, s := range mayNot() {
		mustBeNone(t, ofSlot(s))
	}
	for _, s := range may() {
		mustBeNone(t, meant(uint64(s.Start), uint64(s.Count), 65534))
		mustBeNone(t, meant(uint64(s.Start), 0, uint64(s.Next)&65535))
		mustBeNone(t, meant(uint64(s.Start), uint64(65534-s.Start+1), uint64(s.Next)&65535))
		mustBeNone(t, meant(65534, uint64(s.Count), uint64(s.Next)&65535))
		mustBeNone(t, meant(65535, uint64(s.Count), uint64(s.Next)&65535))
	}
}

// TestDecodeOfABitTurnedWithASumThatFits: what the fields tell then is a slot of its own, or none.
func TestDecodeOfABitTurnedWithASumThatFits(t *testing.T) {
	for _, s := range may() {
		for bit := range 48 {
			x := ofSlot(s)&(1<<48-1) ^ 1<<bit
			start, count, next := x&65535, x>>16&65535, x>>32&65535
			word := meant(start, count, next)
			switch {
			case start > 65533 || count < 1 || start+count > 65534 || next == 65534:
				mustBeNone(t, word)
			case next == 65535:
				mustBe(t, Slot{int(start), int(count), -1}, word)
			default:
				mustBe(t, Slot{int(start), int(count), int(next)}, word)
			}
		}
	}
}

// P7.2: there and back, and nothing else

func TestThereAndBack(t *testing.T) {
	for _, s := range may() {
		x, e := Encode(s)
		if e != api.OK {
			t.Fatal(s, e)
		}
		mustBe(t, s, x)
	}
}

func TestThereAndBackOfEveryNumber(t *testing.T) {
	for k := range 65534 {
		for _, s := range []Slot{{k, 1, k}, {k, 65534 - k, -1}, {0, k + 1, 65533 - k}} {
			x, e := Encode(s)
			if e != api.OK {
				t.Fatal(s, e)
			}
			mustBe(t, s, x)
		}
	}
}

func TestOneWordEach(t *testing.T) {
	seen := map[uint64]Slot{}
	for _, s := range may() {
		x, _ := Encode(s)
		if other, is := seen[x]; is && other != s {
			t.Errorf("%v and %v have one word", s, other)
		}
		seen[x] = s
	}
}

func TestWhatIsDecodedIsEncodedSo(t *testing.T) {
	n := numbers(3)
	decoded := 0
	for range 20000 {
		x := meant(n.next()>>48, n.next()>>48, n.next()>>48)
		s, e := Decode(x)
		if e != api.OK {
			continue
		}
		decoded++
		if back, e := Encode(s); e != api.OK || back != x || !s.May() {
			t.Errorf("%x: %v, then %x, %d", x, s, back, e)
		}
	}
	if decoded < 1000 {
		t.Error("hardly any was decoded:", decoded)
	}
}

// TestHardlyAnyWordIsASlots: of words of any bits one in some 131072 is, by chance; those that are have just that word.
func TestHardlyAnyWordIsASlots(t *testing.T) {
	n := numbers(4)
	for range 200000 {
		x := n.next()
		s, e := Decode(x)
		if is := ofSlot(s) == x && s.May(); is != (e == api.OK) {
			t.Errorf("%x: %v, %d", x, s, e)
		}
	}
}
