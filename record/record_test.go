package record

import (
	"encoding/binary"
	"hash/crc32"
	"math"
	"math/rand/v2"
	"slices"
	"testing"

	"cantle/api"
)

// chance is a source of many numbers, always the same ones.
func chance(seed uint64) *rand.Rand { return rand.New(rand.NewPCG(seed, 9)) }

// summed are seven words, and the sum that fits behind them, worked out by the library's own CRC-32.
func summed(ahead []uint64) []uint64 {
	var b []byte
	for _, x := range ahead {
		b = binary.LittleEndian.AppendUint64(b, x)
	}
	return append(slices.Clone(ahead), uint64(crc32.ChecksumIEEE(b)))
}

// meant is a line with the sum that fits, by its meaning, of four fields and a second word, whether or not they may be.
func meant(first, slot, from, to, count uint64) []uint64 {
	return summed([]uint64{first + slot<<16 + from<<32 + to<<48, count, 0, 0, 0, 0, 0})
}

// ofRecord is the line of a record by its meaning, whether or not it may be, if its numbers fit.
func ofRecord(r Record) []uint64 {
	return meant(1, uint64(r.Slot), uint64(r.From), uint64(r.To), uint64(r.Count))
}

// changed is the line of a record, one of its words changed by some bits.
func changed(l []uint64, word int, bits uint64) []uint64 {
	l = slices.Clone(l)
	l[word] ^= bits
	return l
}

// ofNumbers is the record that has these numbers, in the order of its fields.
func ofNumbers(l [4]int) Record { return Record{l[0], l[1], l[2], l[3]} }

// with is a record, but with another number as its k-th.
func with(r Record, k, n int) Record {
	l := [4]int{r.Slot, r.From, r.To, r.Count}
	l[k] = n
	return ofNumbers(l)
}

// least and greatest are the ends of each number that may be.
var (
	least    = [4]int{0, 0, 0, 1}
	greatest = [4]int{65533, 65533, 65533, 65534}
)

// ordinary are records none of whose numbers stands at an edge.
func ordinary() []Record { return []Record{{2, 3, 4, 5}, {100, 2000, 30000, 400}, {3, 3, 3, 3}} }

// may are records that may be: the example, all numbers at their least and at their greatest, each mixture of these, each number at an edge beside ordinary others, and many between. From and Count may come to more blocks than there are, and From may be To.
func may() []Record {
	l := ordinary()
	for mixture := range 16 {
		n := least
		for k := range n {
			if mixture>>k&1 == 1 {
				n[k] = greatest[k]
			}
		}
		l = append(l, ofNumbers(n))
	}
	for _, r := range ordinary() {
		for k := range least {
			for _, n := range []int{least[k], least[k] + 1, 254, 255, 256, 257, 32766, 32767, 32768, 32769, greatest[k] - 1, greatest[k]} {
				l = append(l, with(r, k, n))
			}
		}
	}
	c := chance(1)
	for range 300 {
		l = append(l, Record{c.IntN(65534), c.IntN(65534), c.IntN(65534), 1 + c.IntN(65534)})
	}
	return l
}

// mayNot are records that may not be, but whose numbers a line's fields could tell.
func mayNot() []Record {
	// The zero value is one of them.
	l := []Record{{}, {0, 0, 0, 65535}, {65534, 65534, 65534, 0}, {65535, 65535, 65535, 65535}}
	for _, r := range append(ordinary(), ofNumbers(least), ofNumbers(greatest)) {
		for k := range 3 {
			l = append(l, with(r, k, 65534), with(r, k, 65535))
		}
		for _, count := range []int{0, 65535, 65536, 65537, 65536 + 5, 65536 + 65534, 1<<20 + 5, 1<<32 + 5, 1<<48 + 5, 1<<62 + 5, math.MaxInt - 1, math.MaxInt} {
			l = append(l, with(r, 3, count))
		}
	}
	return l
}

// cannot are records with numbers that a line's fields can't tell: some of them would, cut to 16 or to 32 bits, or run into the next field, be one that may be.
func cannot() []Record {
	below := []int{-1, -2, -3, -255, -256, -32768, -65533, -65534, -65535, -65536, -65536 + 5, -1<<32 + 5, math.MinInt32, math.MinInt, math.MinInt + 1, math.MinInt + 5}
	above := []int{65536, 65537, 1<<16 + 5, 1<<17 + 5, 1<<32 + 5, 1<<48 + 5, 1<<62 + 5, math.MaxInt32, math.MaxUint32, math.MaxInt - 1, math.MaxInt}
	var l []Record
	for _, r := range append(ordinary(), ofNumbers(least), ofNumbers(greatest)) {
		for k := range least {
			for _, n := range below {
				l = append(l, with(r, k, n))
			}
		}
		for k := range 3 {
			for _, n := range above {
				l = append(l, with(r, k, n))
			}
		}
	}
	for _, n := range append(below, above...) {
		l = append(l, Record{n, n, n, n})
	}
	return l
}

// none are all records that may not be.
func none() []Record { return append(mayNot(), cannot()...) }

// mustBe fails, unless the words are a record's line.
func mustBe(t *testing.T, r Record, l []uint64) {
	t.Helper()
	if got, s := Decode(l...); s != Full || got != r {
		t.Errorf("Decode of %v's %x: %v, %d", r, l, got, s)
	}
}

// mustBeEmpty and mustBeTorn fail, unless the words are so, and the zero value stands beside that.
func mustBeEmpty(t *testing.T, l []uint64) {
	t.Helper()
	if r, s := Decode(l...); s != Empty || r != (Record{}) {
		t.Errorf("Decode of %x: %v, %d, want Empty", l, r, s)
	}
}

func mustBeTorn(t *testing.T, l []uint64) {
	t.Helper()
	if r, s := Decode(l...); s != Torn || r != (Record{}) {
		t.Errorf("Decode of %x: %v, %d, want Torn", l, r, s)
	}
}

// P9.1: the states

func TestStates(t *testing.T) {
	if Empty != 0 || Full != 1 || Torn != 2 {
		t.Error(Empty, Full, Torn)
	}
}

// P9.1: May

func TestMay(t *testing.T) {
	for _, r := range may() {
		if !r.May() {
			t.Error(r)
		}
	}
}

func TestMayNot(t *testing.T) {
	for _, r := range none() {
		if r.May() {
			t.Error(r)
		}
	}
}

// TestMayAtTheEdges holds each of the four numbers against its own ends, the others being as they may.
func TestMayAtTheEdges(t *testing.T) {
	ends := []int{math.MinInt, math.MinInt + 1, math.MinInt32, -65536, -65535, -65534, -65533, -2, -1, 0, 1, 2, 32767, 32768, 65532, 65533, 65534, 65535, 65536, 65537, 1<<16 + 5, 1<<32 + 5, math.MaxInt32, math.MaxInt - 1, math.MaxInt}
	for _, r := range append(ordinary(), ofNumbers(least), ofNumbers(greatest)) {
		for k := range least {
			for _, n := range ends {
				if got, want := with(r, k, n).May(), least[k] <= n && n <= greatest[k]; got != want {
					t.Error(with(r, k, n), got)
				}
			}
		}
	}
}

// P9.1: Encode

func TestEncodeIsTheLine(t *testing.T) {
	for _, r := range may() {
		if l, e := Encode(r); e != api.OK || !slices.Equal(l, ofRecord(r)) {
			t.Errorf("Encode(%v): %x, %d, want %x", r, l, e, ofRecord(r))
		}
	}
}

func TestEncodeByHand(t *testing.T) {
	for _, c := range []struct {
		r             Record
		first, second uint64
		bytes         map[int]byte
	}{
		{Record{2, 3, 4, 5}, 1 + 2<<16 + 3<<32 + 4<<48, 5, map[int]byte{0: 1, 2: 2, 4: 3, 6: 4, 8: 5}},
		{Record{0, 0, 0, 1}, 1, 1, map[int]byte{0: 1, 8: 1}},
		{Record{65533, 65533, 65533, 65534}, 0xFFFD_FFFD_FFFD_0001, 65534, map[int]byte{0: 1, 2: 0xFD, 3: 0xFF, 4: 0xFD, 5: 0xFF, 6: 0xFD, 7: 0xFF, 8: 0xFE, 9: 0xFF}},
		{Record{0x0201, 0x0403, 0x0605, 0x0807}, 0x0605_0403_0201_0001, 0x0807, map[int]byte{0: 1, 2: 1, 3: 2, 4: 3, 5: 4, 6: 5, 7: 6, 8: 7, 9: 8}},
	} {
		l, e := Encode(c.r)
		if e != api.OK || len(l) != 8 || l[0] != c.first || l[1] != c.second || !slices.Equal(l[2:7], make([]uint64, 5)) {
			t.Errorf("Encode(%v): %x, %d", c.r, l, e)
			continue
		}
		b := make([]byte, 56)
		for at, x := range c.bytes {
			b[at] = x
		}
		if l[7] != uint64(crc32.ChecksumIEEE(b)) {
			t.Errorf("Encode(%v): the sum is %x", c.r, l[7])
		}
	}
}

func TestEncodeOfWhatMayNotBe(t *testing.T) {
	for _, r := range none() {
		if l, e := Encode(r); e != api.ErrArg || len(l) != 0 {
			t.Errorf("Encode(%v): %x, %d", r, l, e)
		}
	}
}

// P9.1: Decode, a line that is Full

func TestDecodeTellsTheRecord(t *testing.T) {
	for _, r := range may() {
		mustBe(t, r, ofRecord(r))
	}
}

// P9.1: Decode, a line that is Empty

func TestDecodeOfAnEmptyLine(t *testing.T) {
	mustBeEmpty(t, make([]uint64, 8))
	mustBeEmpty(t, []uint64{0, 0, 0, 0, 0, 0, 0, 0})
	if r, s := Decode(0, 0, 0, 0, 0, 0, 0, 0); s != Empty || r != (Record{}) {
		t.Error(r, s)
	}
}

// TestDecodeOfABitInAnEmptyLine: one bit more, and it is Empty no longer.
func TestDecodeOfABitInAnEmptyLine(t *testing.T) {
	for word := range 8 {
		for bit := range 64 {
			mustBeTorn(t, changed(make([]uint64, 8), word, 1<<bit))
		}
	}
	// Nor is it with the sum of seven noughts.
	mustBeTorn(t, summed(make([]uint64, 7)))
}

// P9.1: Decode, a line that is Torn

func TestDecodeOfAnotherCount(t *testing.T) {
	if r, s := Decode(); s != Torn || r != (Record{}) {
		t.Error(r, s)
	}
	mustBeTorn(t, nil)
	mustBeTorn(t, []uint64{})
	for _, l := range [][]uint64{make([]uint64, 8), ofRecord(Record{2, 3, 4, 5}), ofRecord(ofNumbers(least)), ofRecord(ofNumbers(greatest))} {
		for count := range 8 {
			mustBeTorn(t, l[:count])
			mustBeTorn(t, l[8-count:])
		}
		mustBeTorn(t, append(slices.Clone(l), 0))
		mustBeTorn(t, append(slices.Clone(l), l[7]))
		mustBeTorn(t, append([]uint64{0}, l...))
		mustBeTorn(t, append(slices.Clone(l), l...))
		mustBeTorn(t, append(slices.Clone(l), make([]uint64, 1000)...))
		// A nought too few, or one too many, with the sum as it was and with one that fits.
		for _, other := range [][]uint64{slices.Delete(slices.Clone(l), 3, 4), slices.Insert(slices.Clone(l), 3, 0)} {
			mustBeTorn(t, other)
			mustBeTorn(t, summed(other[:len(other)-1]))
		}
	}
	for _, count := range []int{1, 2, 7, 9, 16, 64, 1000} {
		mustBeTorn(t, make([]uint64, count))
	}
}

func TestDecodeOfEachBitTurned(t *testing.T) {
	for _, r := range may() {
		l := ofRecord(r)
		for word := range l {
			for bit := range 64 {
				mustBeTorn(t, changed(l, word, 1<<bit))
			}
		}
	}
}

// TestDecodeOfNeighbouringBitsTurned: 32 at most, which the sum tells wherever they stand.
func TestDecodeOfNeighbouringBitsTurned(t *testing.T) {
	c := chance(2)
	for _, r := range may() {
		l := ofRecord(r)
		for word := range l {
			for range 20 {
				if turned := uint64(c.Uint32()) << c.IntN(33); turned != 0 {
					mustBeTorn(t, changed(l, word, turned))
				}
			}
		}
	}
}

// TestDecodeOfSomeWordsAlone: a crash may keep any of the words that were stored, and leave the others 0.
func TestDecodeOfSomeWordsAlone(t *testing.T) {
	for _, r := range may() {
		l := ofRecord(r)
		var there []int
		for word, x := range l {
			if x != 0 {
				there = append(there, word)
			}
		}
		if len(there) != 3 {
			t.Fatalf("%v has another count of words that aren't 0: %x", r, l)
		}
		all := 1<<len(there) - 1
		for choice := 1; choice < all; choice++ {
			some := make([]uint64, 8)
			for k, word := range there {
				if choice>>k&1 == 1 {
					some[word] = l[word]
				}
			}
			mustBeTorn(t, some)
		}
	}
}

// TestDecodeOfTwoRecordsMixed: some words of one, the others of another one that was there ahead of it. A sum is of both words, so none of these fits.
func TestDecodeOfTwoRecordsMixed(t *testing.T) {
	one, other := ofRecord(Record{2, 3, 4, 5}), ofRecord(Record{9, 300, 70, 8})
	for choice := 1; choice < 7; choice++ {
		mixed := slices.Clone(other)
		for k, word := range []int{0, 1, 7} {
			if choice>>k&1 == 1 {
				mixed[word] = one[word]
			}
		}
		mustBeTorn(t, mixed)
	}
}

func TestDecodeOfAnotherFirstField(t *testing.T) {
	for _, r := range append(ordinary(), ofNumbers(least), ofNumbers(greatest)) {
		for first := range uint64(65536) {
			if first != 1 {
				mustBeTorn(t, meant(first, uint64(r.Slot), uint64(r.From), uint64(r.To), uint64(r.Count)))
			}
		}
	}
}

// TestDecodeOfARecordThatMayNotBe: a sum that fits is not enough.
func TestDecodeOfARecordThatMayNotBe(t *testing.T) {
	for _, r := range mayNot() {
		mustBeTorn(t, ofRecord(r))
	}
	for _, r := range may() {
		for k := range 3 {
			mustBeTorn(t, ofRecord(with(r, k, 65534)))
			mustBeTorn(t, ofRecord(with(r, k, 65535)))
		}
		// A Count of more than 16 bits, and one that is below 0 as an int.
		for _, count := range []uint64{0, 65535, 65536, 1<<16 + uint64(r.Count), 1<<32 + uint64(r.Count), 1<<48 + uint64(r.Count), 1<<63 + uint64(r.Count), 1 << 63, math.MaxInt64, math.MaxUint64, -uint64(r.Count)} {
			mustBeTorn(t, meant(1, uint64(r.Slot), uint64(r.From), uint64(r.To), count))
		}
	}
}

func TestDecodeOfAWordThatIsnt0(t *testing.T) {
	c := chance(3)
	for _, r := range append(ordinary(), ofNumbers(least), ofNumbers(greatest)) {
		l := ofRecord(r)
		for word := 2; word < 7; word++ {
			for bit := range 64 {
				mustBeTorn(t, summed(changed(l, word, 1<<bit)[:7]))
			}
			for _, x := range []uint64{l[0], l[1], l[7], math.MaxUint64, c.Uint64() | 1} {
				mustBeTorn(t, summed(changed(l, word, x)[:7]))
				mustBeTorn(t, changed(l, word, x))
			}
		}
	}
}

func TestDecodeOfAnotherSum(t *testing.T) {
	for _, r := range ordinary() {
		l := ofRecord(r)
		for _, sum := range []uint64{0, 1, ^l[7], l[7] ^ math.MaxUint32, l[7] + 1, l[7] - 1, math.MaxUint32, math.MaxUint64, l[7] | 1<<32, l[7] | l[7]<<32, l[7] | math.MaxUint32<<32, l[7] << 32} {
			other := slices.Clone(l)
			other[7] = sum
			mustBeTorn(t, other)
		}
	}
}

func TestDecodeOfOtherWords(t *testing.T) {
	mustBeTorn(t, slices.Repeat([]uint64{1}, 8))
	mustBeTorn(t, slices.Repeat([]uint64{math.MaxUint64}, 8))
	c := chance(4)
	for range 1000 {
		l := make([]uint64, 8)
		for k := range l {
			l[k] = c.Uint64()
		}
		mustBeTorn(t, l)
		mustBeTorn(t, summed(l[:7]))
	}
}

// TestDecodeOfABitTurnedWithASumThatFits: what the first two words tell then is a record of its own, or none.
func TestDecodeOfABitTurnedWithASumThatFits(t *testing.T) {
	for _, r := range may() {
		for word := range 7 {
			for bit := range 64 {
				l := summed(changed(ofRecord(r), word, 1<<bit)[:7])
				slot, from, to := l[0]>>16&65535, l[0]>>32&65535, l[0]>>48
				if word > 1 || l[0]&65535 != 1 || max(slot, from, to) > 65533 || l[1] < 1 || l[1] > 65534 {
					mustBeTorn(t, l)
				} else {
					mustBe(t, Record{int(slot), int(from), int(to), int(l[1])}, l)
				}
			}
		}
	}
}

// P9.2: there and back, and nothing else

func TestThereAndBack(t *testing.T) {
	for _, r := range may() {
		l, e := Encode(r)
		if e != api.OK {
			t.Fatal(r, e)
		}
		mustBe(t, r, l)
	}
}

func TestThereAndBackOfEveryNumber(t *testing.T) {
	for n := range 65534 {
		for _, r := range []Record{{n, 65533 - n, n * 7 % 65534, n + 1}, {2, n, 4, 5}} {
			l, e := Encode(r)
			if e != api.OK {
				t.Fatal(r, e)
			}
			mustBe(t, r, l)
		}
	}
}

func TestOneLineEach(t *testing.T) {
	seen := map[[8]uint64]Record{}
	for _, r := range may() {
		l, _ := Encode(r)
		if other, is := seen[[8]uint64(l)]; is && other != r {
			t.Errorf("%v and %v have one line", r, other)
		}
		seen[[8]uint64(l)] = r
	}
}

// TestWhatIsFullIsEncodedSo: of lines with sums that fit, those that are Full are just the ones that Encode makes.
func TestWhatIsFullIsEncodedSo(t *testing.T) {
	c := chance(5)
	// Numbers about the ends, so that many may be and many may not.
	some := func() uint64 { return uint64(uint16(c.IntN(8) - 4)) }
	full := 0
	for range 20000 {
		l := meant(uint64(c.IntN(3)), some(), some(), some(), some())
		r, s := Decode(l...)
		if s != Full {
			continue
		}
		full++
		if back, e := Encode(r); e != api.OK || !slices.Equal(back, l) || !r.May() {
			t.Errorf("%x: %v, then %x, %d", l, r, back, e)
		}
	}
	if full < 1000 {
		t.Error("hardly any was Full:", full)
	}
}

// P9.2: memory

func TestWordsArentChangedOrKept(t *testing.T) {
	r := Record{2, 3, 4, 5}
	for _, l := range [][]uint64{ofRecord(r), make([]uint64, 8), ofRecord(Record{2, 3, 4, 0})} {
		room := slices.Repeat([]uint64{77}, 20)
		copy(room, l)
		was := slices.Clone(room)
		for count := range room {
			Decode(room[:count]...)
		}
		if !slices.Equal(room, was) {
			t.Errorf("%x", room)
		}
	}
	// What was told of a line stays so, and what is told of it next is what stands there then.
	l := ofRecord(r)
	got, s := Decode(l...)
	clear(l)
	mustBeEmpty(t, l)
	copy(l, ofRecord(Record{7, 8, 9, 10}))
	mustBe(t, Record{7, 8, 9, 10}, l)
	if got != r || s != Full {
		t.Error(got, s)
	}
}

func TestAnswersAreNewMemory(t *testing.T) {
	for _, r := range may()[:20] {
		one, _ := Encode(r)
		other, _ := Encode(r)
		for k := range one[:cap(one)] {
			one[:cap(one)][k] = 99
		}
		if !slices.Equal(other, ofRecord(r)) {
			t.Errorf("%x", other)
		}
		if again, e := Encode(r); e != api.OK || !slices.Equal(again, ofRecord(r)) {
			t.Errorf("%x, %d", again, e)
		}
		mustBe(t, r, other)
	}
}
