package pack

import (
	"encoding/binary"
	"math"
	"math/bits"
	"slices"
	"testing"
)

// numbers are many numbers, always the same ones.
type numbers uint64

func (n *numbers) next() uint64 {
	*n = *n*6364136223846793005 + 1442695040888963407
	return bits.RotateLeft64(uint64(*n), 29) ^ uint64(*n)
}

// upTo is a number from 1 to a greatest one.
func (n *numbers) upTo(greatest int) int { return 1 + int(n.next()>>8%uint64(greatest)) }

// some are so many bytes.
func (n *numbers) some(count int) []byte {
	l := make([]byte, count)
	for k := range l {
		l[k] = byte(n.next() >> 7)
	}
	return l
}

// words are so many words.
func (n *numbers) words(count int) []uint64 {
	l := make([]uint64, count)
	for k := range l {
		l[k] = n.next()
	}
	return l
}

// widths are those of fields that come to at most 64 bits: mostly narrow ones, or mostly wide ones.
func (n *numbers) widths() []int {
	room, greatest, l := n.upTo(65)-1, n.upTo(64), []int{}
	for room > 0 {
		width := min(n.upTo(greatest), room)
		l = append(l, width)
		room -= width
	}
	return l
}

// fields are fields of some widths, some of them with the least or the greatest value that they may have.
func (n *numbers) fields(widths []int) []Field {
	l := []Field{}
	for _, width := range widths {
		value := n.next() >> (64 - width)
		switch n.upTo(6) {
		case 1:
			value = 0
		case 2:
			value = greatest(width)
		}
		l = append(l, Field{width, value})
	}
	return l
}

// greatest is the greatest value that is below 2 to the width.
func greatest(width int) uint64 {
	if width == 64 {
		return math.MaxUint64
	}
	return 1<<width - 1
}

// laid is a word of fields by its meaning: bit by bit, the first field in the lowest bits.
func laid(l []Field) uint64 {
	x, at := uint64(0), 0
	for _, f := range l {
		for k := range f.Width {
			if f.Value>>k&1 == 1 {
				x |= 1 << at
			}
			at++
		}
	}
	return x
}

// values are those of fields.
func values(l []Field) []uint64 {
	m := []uint64{}
	for _, f := range l {
		m = append(m, f.Value)
	}
	return m
}

// of are fields with all bits 0, or all 1.
func of(one bool, widths ...int) []Field {
	l := []Field{}
	for _, width := range widths {
		f := Field{Width: width}
		if one {
			f.Value = greatest(width)
		}
		l = append(l, f)
	}
	return l
}

// times is a width so often.
func times(width, count int) []int { return slices.Repeat([]int{width}, count) }

// wrongWidths are no fields' widths, or too many of them: below 1, above 64, more than 64 in all, and sums that wrap round an int.
func wrongWidths() [][]int {
	l := [][]int{
		{64, 1}, {1, 64}, {63, 2}, {32, 33}, {60, 5}, {16, 16, 16, 17}, {64, 64},
		times(1, 65), times(8, 9), times(64, 1000), times(1, 100000),
		{math.MaxInt, math.MaxInt, 2 + 64}, {64, math.MaxInt}, {1, math.MaxInt}, {32, math.MaxInt, math.MaxInt, 2},
		{1 << 62, 1 << 62, 1 << 62, 1 << 62, 8}, {40, 40, -40}, {8, -8}, {-8, 16}, {64, -1, 1},
	}
	for _, width := range []int{0, -1, -8, -63, -64, -65, 65, 66, 128, 255, 256, 256 + 8, 1<<32 + 8, -1<<32 + 8, math.MaxInt, math.MinInt, math.MinInt + 8, math.MaxInt32, math.MinInt32} {
		// Alone, ahead of one that may be, behind it, between two, and behind a word that is full.
		l = append(l, []int{width}, []int{width, 8}, []int{8, width}, []int{8, width, 8}, []int{32, 32, width})
	}
	return l
}

// P3.1

func TestTheExample(t *testing.T) {
	if x, is := Pack(Field{4, 5}, Field{8, 7}); x != 117 || !is {
		t.Errorf("%d, %t", x, is)
	}
	if l, is := Split(117, 4, 8); !slices.Equal(l, []uint64{5, 7}) || !is {
		t.Errorf("%d, %t", l, is)
	}
}

func TestFieldsStandFromTheLowestBitsOn(t *testing.T) {
	for _, c := range []struct {
		l    []Field
		want uint64
	}{
		{nil, 0},
		{[]Field{{1, 1}}, 1},
		{[]Field{{1, 0}, {1, 1}}, 2},
		{[]Field{{63, 0}, {1, 1}}, 1 << 63},
		{[]Field{{1, 1}, {63, 1}}, 3},
		{[]Field{{16, 1}, {16, 2}, {16, 3}, {16, 0xFFFF}}, 0xFFFF000300020001},
		{[]Field{{64, 0x0123456789ABCDEF}}, 0x0123456789ABCDEF},
		{[]Field{{64, math.MaxUint64}}, math.MaxUint64},
		{[]Field{{8, 0xAB}, {56, 0}}, 0xAB},
		{[]Field{{8, 0}, {56, 1<<56 - 1}}, 0xFFFFFFFFFFFFFF00},
		{[]Field{{3, 1}, {16, 3}, {28, 5}}, 1 | 3<<3 | 5<<19},
	} {
		if x, is := Pack(c.l...); x != c.want || !is {
			t.Errorf("Pack(%v): %#x, %t, want %#x", c.l, x, is, c.want)
		}
	}
}

func TestValuesComeInTheOrderOfTheirFields(t *testing.T) {
	for _, c := range []struct {
		x      uint64
		widths []int
		want   []uint64
	}{
		{0, nil, nil},
		{1, []int{1}, []uint64{1}},
		{2, []int{1, 1}, []uint64{0, 1}},
		{1 << 63, []int{63, 1}, []uint64{0, 1}},
		{3, []int{1, 63}, []uint64{1, 1}},
		{0x1234, []int{8, 8}, []uint64{0x34, 0x12}},
		{0xFFFF000300020001, []int{16, 16, 16, 16}, []uint64{1, 2, 3, 0xFFFF}},
		{math.MaxUint64, []int{64}, []uint64{math.MaxUint64}},
		{0, []int{64}, []uint64{0}},
		{0xFF, []int{8, 8, 48}, []uint64{0xFF, 0, 0}},
		{math.MaxUint64, times(1, 64), slices.Repeat([]uint64{1}, 64)},
	} {
		if l, is := Split(c.x, c.widths...); !slices.Equal(l, c.want) || !is {
			t.Errorf("Split(%#x, %v): %v, %t, want %v", c.x, c.widths, l, is, c.want)
		}
	}
}

func TestEveryWidthAtEveryPlace(t *testing.T) {
	for ahead := range 64 {
		for width := 1; width <= 64-ahead; width++ {
			l, widths := []Field{{width, greatest(width)}}, []int{width}
			if ahead > 0 {
				l, widths = slices.Insert(l, 0, Field{ahead, 0}), slices.Insert(widths, 0, ahead)
			}
			want := greatest(width) << ahead
			if x, is := Pack(l...); x != want || !is {
				t.Fatalf("Pack(%v): %#x, %t, want %#x", l, x, is, want)
			}
			if m, is := Split(want, widths...); !slices.Equal(m, values(l)) || !is {
				t.Fatalf("Split(%#x, %v): %v, %t", want, widths, m, is)
			}
		}
	}
}

func TestNoFieldsAtAll(t *testing.T) {
	for _, l := range [][]Field{nil, {}} {
		if x, is := Pack(l...); x != 0 || !is {
			t.Errorf("%#x, %t", x, is)
		}
	}
	for _, widths := range [][]int{nil, {}} {
		if l, is := Split(0, widths...); len(l) != 0 || !is {
			t.Errorf("%v, %t", l, is)
		}
		for k := range 64 {
			if l, is := Split(1<<k, widths...); len(l) != 0 || is {
				t.Errorf("bit %d: %v, %t", k, l, is)
			}
		}
	}
}

func TestWidthsThatMayNotBe(t *testing.T) {
	for _, widths := range wrongWidths() {
		short := widths[:min(len(widths), 5)]
		l := []Field{}
		for _, width := range widths {
			l = append(l, Field{Width: width})
		}
		if x, is := Pack(l...); x != 0 || is {
			t.Errorf("Pack of %d fields, %v: %#x, %t", len(l), short, x, is)
		}
		// Beside a false nothing is told, not even of the fields ahead.
		if l[0].Width >= 1 {
			l[0].Value = 1
		}
		if x, is := Pack(l...); x != 0 || is {
			t.Errorf("Pack of %d fields, %v, the first one 1: %#x, %t", len(l), short, x, is)
		}
		for _, x := range []uint64{0, 1, 117, 1 << 63, math.MaxUint64} {
			if m, is := Split(x, widths...); len(m) != 0 || is {
				t.Errorf("Split(%#x) by %d widths, %v: %v, %t", x, len(widths), short, m, is)
			}
		}
	}
}

func TestWidthsThatComeTo64(t *testing.T) {
	for _, widths := range [][]int{{64}, {63, 1}, {1, 63}, {32, 32}, times(1, 64), times(2, 32), {16, 16, 16, 16}, {1, 62, 1}, {3, 5, 7, 11, 13, 25}} {
		if x, is := Pack(of(true, widths...)...); x != math.MaxUint64 || !is {
			t.Errorf("%v: %#x, %t", widths, x, is)
		}
		if x, is := Pack(of(false, widths...)...); x != 0 || !is {
			t.Errorf("%v: %#x, %t", widths, x, is)
		}
		if l, is := Split(math.MaxUint64, widths...); !slices.Equal(l, values(of(true, widths...))) || !is {
			t.Errorf("%v: %v, %t", widths, l, is)
		}
		// One bit more.
		if x, is := Pack(append(of(true, widths...), Field{Width: 1})...); x != 0 || is {
			t.Errorf("%v and 1: %#x, %t", widths, x, is)
		}
		if l, is := Split(math.MaxUint64, append(widths, 1)...); len(l) != 0 || is {
			t.Errorf("%v and 1: %v, %t", widths, l, is)
		}
	}
}

func TestValuesThatAreTooGreat(t *testing.T) {
	for width := 1; width < 64; width++ {
		if x, is := Pack(Field{width, greatest(width)}); x != greatest(width) || !is {
			t.Errorf("%d bits, %#x: %#x, %t", width, greatest(width), x, is)
		}
		for _, value := range []uint64{greatest(width) + 1, greatest(width) + 2, 1 << 63, 1<<63 | 1, math.MaxUint64} {
			wrong := Field{width, value}
			for _, l := range [][]Field{{wrong}, {{1, 1}, wrong}, {wrong, {1, 1}}, {{64 - width, 1}, wrong}, {wrong, {64 - width, 0}}} {
				if x, is := Pack(l...); x != 0 || is {
					t.Errorf("Pack(%v): %#x, %t", l, x, is)
				}
			}
		}
	}
}

func TestWhatNoFieldHasMustBe0(t *testing.T) {
	for width := 1; width < 64; width++ {
		for k := range 64 {
			l, is := Split(1<<k, width)
			if want := k < width; is != want {
				t.Errorf("Split(1<<%d, %d): %v, %t, want %t", k, width, l, is, want)
			}
			if !is && len(l) != 0 {
				t.Errorf("Split(1<<%d, %d): %v beside a false", k, width, l)
			}
		}
		if l, is := Split(greatest(width), width); !slices.Equal(l, []uint64{greatest(width)}) || !is {
			t.Errorf("%d bits: %v, %t", width, l, is)
		}
		if l, is := Split(math.MaxUint64, width); len(l) != 0 || is {
			t.Errorf("%d bits of all: %v, %t", width, l, is)
		}
	}
	if l, is := Split(0x1234, 8, 4); len(l) != 0 || is {
		t.Errorf("%v, %t", l, is)
	}
}

func TestFieldsAsTheyAreMeant(t *testing.T) {
	n := numbers(1)
	for range 5000 {
		l := n.fields(n.widths())
		if x, is := Pack(l...); x != laid(l) || !is {
			t.Fatalf("Pack(%v): %#x, %t, want %#x", l, x, is, laid(l))
		}
	}
}

// P3.2

func TestBytesOfWords(t *testing.T) {
	for _, c := range []struct {
		l    []uint64
		want []byte
	}{
		{nil, nil},
		{[]uint64{}, nil},
		{[]uint64{0}, make([]byte, 8)},
		{[]uint64{0x0201}, []byte{1, 2, 0, 0, 0, 0, 0, 0}},
		{[]uint64{0x3837363534333231}, []byte("12345678")},
		{[]uint64{math.MaxUint64}, slices.Repeat([]byte{255}, 8)},
		{[]uint64{1, 1 << 63}, []byte{1, 0, 0, 0, 0, 0, 0, 0, 0, 0, 0, 0, 0, 0, 0, 128}},
	} {
		if b := Bytes(c.l...); !slices.Equal(b, c.want) {
			t.Errorf("Bytes(%#x): %v, want %v", c.l, b, c.want)
		}
	}
}

func TestWordsOfBytes(t *testing.T) {
	for _, c := range []struct {
		b    []byte
		want []uint64
	}{
		{nil, nil},
		{[]byte{}, nil},
		{[]byte{0}, []uint64{0}},
		{[]byte{1}, []uint64{1}},
		{[]byte("1234567"), []uint64{0x0037363534333231}},
		{[]byte("12345678"), []uint64{0x3837363534333231}},
		{[]byte("123456789"), []uint64{0x3837363534333231, 0x39}},
		{[]byte{0, 0, 0, 0, 0, 0, 0, 255}, []uint64{0xFF00000000000000}},
		{make([]byte, 8), []uint64{0}},
		{make([]byte, 9), []uint64{0, 0}},
		{make([]byte, 16), []uint64{0, 0}},
		{make([]byte, 17), []uint64{0, 0, 0}},
	} {
		if l := Words(c.b); !slices.Equal(l, c.want) {
			t.Errorf("Words(%v): %#x, want %#x", c.b, l, c.want)
		}
	}
}

func TestBytesThatEndInTheMidstOfAWord(t *testing.T) {
	for count := range 40 {
		// What stands in the spare room behind them isn't theirs: what lacks is 0.
		room := slices.Repeat([]byte{255}, 64)
		l := Words(room[:count])
		if len(l) != (count+7)/8 {
			t.Fatalf("%d bytes: %d words", count, len(l))
		}
		for k, x := range l {
			if want := greatest(8 * min(8, count-8*k)); x != want {
				t.Errorf("%d bytes, word %d: %#x, want %#x", count, k, x, want)
			}
		}
	}
}

func TestBytesAndWordsOfAnyNumber(t *testing.T) {
	n := numbers(2)
	for _, count := range []int{0, 1, 2, 3, 4, 5, 6, 7, 8, 9, 31, 32, 33, 512, 1000, 65537} {
		l, want := n.words(count), []byte{}
		for _, x := range l {
			want = binary.LittleEndian.AppendUint64(want, x)
		}
		if b := Bytes(l...); !slices.Equal(b, want) {
			t.Fatalf("%d words: other bytes", count)
		}
		if m := Words(want); !slices.Equal(m, l) {
			t.Fatalf("%d words: other words", count)
		}
	}
}

// P3.3

func TestWhatIsPackedIsSplit(t *testing.T) {
	n := numbers(3)
	for range 5000 {
		widths := n.widths()
		l := n.fields(widths)
		x, is := Pack(l...)
		if m, also := Split(x, widths...); !is || !also || !slices.Equal(m, values(l)) {
			t.Fatalf("%v: %#x, %t: %v, %t", l, x, is, m, also)
		}
	}
}

// Words of all kinds, so that what no field has is often 0, and often isn't: just then they are split, and what is split is packed.
func TestWhatIsSplitIsPacked(t *testing.T) {
	n := numbers(4)
	split, not := 0, 0
	for range 10000 {
		widths := n.widths()
		x, all := n.next()>>(n.upTo(65)-1), 0
		for _, width := range widths {
			all += width
		}
		l, is := Split(x, widths...)
		if is != (bits.Len64(x) <= all) {
			t.Fatalf("Split(%#x, %v): %v, %t", x, widths, l, is)
		}
		if !is {
			not++
			continue
		}
		split++
		fields := []Field{}
		for k, width := range widths {
			fields = append(fields, Field{width, l[k]})
		}
		if y, also := Pack(fields...); y != x || !also {
			t.Fatalf("%#x, %v: %v: %#x, %t", x, widths, l, y, also)
		}
	}
	if split < 1000 || not < 1000 {
		t.Errorf("%d split, %d not", split, not)
	}
}

func TestBytesThereAndBack(t *testing.T) {
	n := numbers(5)
	for count := range 300 {
		l := n.words(count)
		if m := Words(Bytes(l...)); !slices.Equal(m, l) {
			t.Fatalf("%#x: %#x", l, m)
		}
		b := n.some(count)
		want := slices.Concat(b, make([]byte, (8-count%8)%8))
		if c := Bytes(Words(b)...); !slices.Equal(c, want) {
			t.Fatalf("%v: %v", b, c)
		}
	}
}

func TestWhatIsHandedInIsNotChanged(t *testing.T) {
	n := numbers(6)
	fields, widths, words, room := n.fields(times(8, 8)), times(8, 8), n.words(8), n.some(64)
	wantFields, wantWidths, wantWords, wantRoom := slices.Clone(fields), slices.Clone(widths), slices.Clone(words), slices.Clone(room)
	// Pieces of them, so that there is spare room behind them, which stays, too.
	for count := range 8 {
		Pack(fields[:count]...)
		Split(n.next(), widths[:count]...)
		Split(greatest(8)>>2, widths[:count]...)
		Bytes(words[:count]...)
		Words(room[:count])
		Words(room[:8*count])
	}
	if !slices.Equal(fields, wantFields) || !slices.Equal(widths, wantWidths) || !slices.Equal(words, wantWords) || !slices.Equal(room, wantRoom) {
		t.Error("fields, widths, words or bytes were changed")
	}
}

func TestWhatIsHandedInIsNotKept(t *testing.T) {
	fields, widths, words, room := []Field{{4, 5}, {8, 7}}, []int{4, 8}, []uint64{0x0201}, []byte{1, 2}
	for range 2 {
		l, is := Split(117, widths...)
		b, m := Bytes(words...), Words(room)
		if x, also := Pack(fields...); x != 117 || !also {
			t.Fatalf("%d, %t", x, also)
		}
		// Other things in the same memory: what was answered stays, and what is asked now is told.
		fields[0], widths[0], words[0], room[0] = Field{4, 6}, 5, 9, 9
		if !is || !slices.Equal(l, []uint64{5, 7}) || !slices.Equal(b, []byte{1, 2, 0, 0, 0, 0, 0, 0}) || !slices.Equal(m, []uint64{0x0201}) {
			t.Fatalf("answers were changed: %v, %v, %#x", l, b, m)
		}
		x, _ := Pack(fields...)
		l, _ = Split(117, widths...)
		if x != 118 || !slices.Equal(l, []uint64{21, 3}) || Bytes(words...)[0] != 9 || Words(room)[0] != 0x0209 {
			t.Fatal("what was handed in before is told")
		}
		fields[0], widths[0], words[0], room[0] = Field{4, 5}, 4, 0x0201, 1
	}
}

func TestAnswersAreNewMemory(t *testing.T) {
	widths, words, room := []int{4, 8}, []uint64{0x0201, 3}, []byte{1, 2, 3, 4, 5, 6, 7, 8, 9}
	for range 2 {
		l, _ := Split(117, widths...)
		b, m := Bytes(words...), Words(room)
		if !slices.Equal(l, []uint64{5, 7}) || !slices.Equal(b[:3], []byte{1, 2, 0}) || !slices.Equal(m, []uint64{0x0807060504030201, 9}) {
			t.Fatalf("an answer is an earlier one's memory: %v, %v, %#x", l, b, m)
		}
		// Written all over, spare room, too: neither what was handed in nor a later answer has it.
		l, b, m = l[:cap(l)], b[:cap(b)], m[:cap(m)]
		for k := range l {
			l[k] = math.MaxUint64
		}
		for k := range b {
			b[k] = 255
		}
		for k := range m {
			m[k] = math.MaxUint64
		}
		if !slices.Equal(widths, []int{4, 8}) || !slices.Equal(words, []uint64{0x0201, 3}) || !slices.Equal(room, []byte{1, 2, 3, 4, 5, 6, 7, 8, 9}) {
			t.Fatal("an answer is the memory of what was handed in")
		}
	}
}
