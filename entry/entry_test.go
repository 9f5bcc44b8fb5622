package entry

import (
	"bytes"
	"encoding/binary"
	"hash/crc32"
	"math"
	"math/rand/v2"
	"slices"
	"strconv"
	"strings"
	"testing"

	"cantle/api"
)

// chance is a source of many numbers, always the same ones.
func chance(seed uint64) *rand.Rand { return rand.New(rand.NewPCG(seed, 8)) }

// someName is a name of so many bytes, of all those that it may have.
func someName(r *rand.Rand, count int) string {
	for {
		b := make([]byte, count)
		for k := range b {
			for b[k] == 0 || b[k] == '/' {
				b[k] = byte(r.Uint32())
			}
		}
		if name := string(b); name != "." && name != ".." {
			return name
		}
	}
}

// summed are 60 bytes, and the sum that fits behind them.
func summed(ahead []byte) []byte {
	return binary.LittleEndian.AppendUint32(slices.Clone(ahead), crc32.ChecksumIEEE(ahead))
}

// meant are the bytes of an entry by their meaning, whether or not it may be, if its name has at most 48 bytes.
func meant(n Entry) []byte {
	b := binary.LittleEndian.AppendUint16(nil, uint16(n.Inode))
	b = append(b, byte(len(n.Name)), 0)
	b = append(b, n.Name...)
	for len(b) < 60 {
		b = append(b, 0)
	}
	return summed(b)
}

// joined are the bytes of entries by their meaning, one behind the other.
func joined(l ...Entry) []byte {
	var b []byte
	for _, n := range l {
		b = append(b, meant(n)...)
	}
	return b
}

// changed are the bytes of an entry, changed by a function, with a sum that fits.
func changed(n Entry, change func(b []byte)) []byte {
	b := meant(n)[:60]
	change(b)
	return summed(b)
}

// names are such as may be: of 1 to 48 bytes, with dots, with every byte that is one of a name's.
func names() []string {
	l := []string{"a", "ab", "...", "....", ".a", "a.", "..a", "a..", ". ", " .", " ", "\\", "\x01", "\x7F", "\x80", "\xFF", "\xFF\xFE", "\xC0\xAF", "é", "日本", "a b", "-", "\n", "\r\n", "~", "*", "A", "\x2E\x01", strings.Repeat(".", 48), strings.Repeat("é", 24), strings.Repeat("\xFF", 48)}
	for b := 1; b < 256; b++ {
		if b != '.' && b != '/' {
			l = append(l, string([]byte{byte(b)}))
		}
		if b != '/' {
			l = append(l, "x"+string([]byte{byte(b)})+"y")
		}
	}
	r := chance(1)
	for count := 1; count <= 48; count++ {
		l = append(l, strings.Repeat("n", count), someName(r, count))
	}
	return l
}

// noNames are no names.
func noNames() []string {
	l := []string{"", ".", "..", "/", "\x00", "//", "/.", "./", "../", "a/", "/a", "a/b", "\x00a", "a\x00", "a\x00b", "\xFF/", "\x00\xFF", "é/é", "é\x00é"}
	for _, count := range []int{49, 50, 51, 60, 64, 255, 256, 257, 256 + 48, 65536, 65537} {
		l = append(l, strings.Repeat("n", count), strings.Repeat(".", count), strings.Repeat("\xFF", count))
	}
	// 48 runes, but more bytes.
	l = append(l, strings.Repeat("é", 25), strings.Repeat("é", 48))
	for count := 1; count <= 48; count++ {
		for at := range count {
			for _, bad := range []byte{0, '/'} {
				b := bytes.Repeat([]byte("n"), count)
				b[at] = bad
				l = append(l, string(b))
			}
		}
	}
	return l
}

// inodes are numbers that an entry may have, and noInodes such as it may not; some of the latter would be one that it may, cut to 16 bits.
func inodes() []int {
	return []int{0, 1, 2, 127, 128, 254, 255, 256, 257, 258, 32767, 32768, 65279, 65280, 65532, 65533}
}

func noInodes() []int {
	return []int{-1, -2, 65534, 65535, 65536, 65537, 65536 + 258, -65536, -65535, -65534, 1 << 32, 1<<32 + 258, 1 << 48, -1 << 32, math.MinInt, math.MinInt + 1, math.MinInt + 258, math.MaxInt - 1, math.MaxInt, math.MinInt32, math.MaxInt32, math.MaxUint32}
}

// may are entries that may be.
func may() []Entry {
	var l []Entry
	for k, name := range names() {
		l = append(l, Entry{name, 0}, Entry{name, 65533}, Entry{name, k * 97 % 65534})
	}
	for _, inode := range inodes() {
		l = append(l, Entry{"ab", inode}, Entry{"...", inode}, Entry{strings.Repeat("z", 48), inode})
	}
	return l
}

// mayNot are entries that may not be.
func mayNot() []Entry {
	l := []Entry{{}}
	for _, name := range noNames() {
		l = append(l, Entry{name, 0}, Entry{name, 258}, Entry{name, 65533}, Entry{name, -1}, Entry{name, 65534})
	}
	for _, inode := range noInodes() {
		l = append(l, Entry{"ab", inode}, Entry{strings.Repeat("z", 48), inode})
	}
	return l
}

// many are so many entries, of as many names.
func many(count int) []Entry {
	l := make([]Entry, count)
	for k := range l {
		l[k] = Entry{"n" + strconv.Itoa(k), (k * 7) % 65534}
	}
	return l
}

// mustBe fails, unless the bytes are an entry's.
func mustBe(t *testing.T, n Entry, b []byte) {
	t.Helper()
	if got, e := Decode(b); e != api.OK || got != n {
		t.Errorf("Decode of %q's %x: %q, %d, %d", n.Name, b, got.Name, got.Inode, e)
	}
}

// mustBeNone fails, unless the bytes are none's, and the zero value stands beside that.
func mustBeNone(t *testing.T, b []byte) {
	t.Helper()
	if n, e := Decode(b); e != api.ErrForm || n != (Entry{}) {
		t.Errorf("Decode of %x: %q, %d, %d", b, n.Name, n.Inode, e)
	}
}

// mustHold fails, unless the bytes are those of a directory with just these entries.
func mustHold(t *testing.T, want []Entry, b []byte) {
	t.Helper()
	if got, e := All(b); e != api.OK || !slices.Equal(got, want) {
		t.Errorf("All of %d bytes: %d entries, %d, want %d", len(b), len(got), e, len(want))
	}
}

// mustHoldNone fails, unless the bytes are no directory's, and nothing stands beside that.
func mustHoldNone(t *testing.T, b []byte) {
	t.Helper()
	if l, e := All(b); e != api.ErrForm || len(l) != 0 {
		t.Errorf("All of %d bytes: %d entries, %d", len(b), len(l), e)
	}
}

// mustJoin fails, unless the entries' bytes are just these.
func mustJoin(t *testing.T, want []byte, l ...Entry) {
	t.Helper()
	if got, e := Join(l...); e != api.OK || !bytes.Equal(got, want) {
		t.Errorf("Join of %d entries: %d bytes, %d, want %d", len(l), len(got), e, len(want))
	}
}

// mustNotJoin fails, unless the entries have no bytes.
func mustNotJoin(t *testing.T, l ...Entry) {
	t.Helper()
	if b, e := Join(l...); e != api.ErrArg || len(b) != 0 {
		t.Errorf("Join of %d entries: %d bytes, %d", len(l), len(b), e)
	}
}

// P8.1: Right

func TestRight(t *testing.T) {
	for _, name := range names() {
		if !Right(name) {
			t.Errorf("%q", name)
		}
	}
}

func TestRightOfNoName(t *testing.T) {
	for _, name := range noNames() {
		if Right(name) {
			t.Errorf("%q", name)
		}
	}
}

func TestRightOfEveryByte(t *testing.T) {
	for b := range 256 {
		one := string([]byte{byte(b)})
		if got, want := Right(one), b != 0 && b != '/' && b != '.'; got != want {
			t.Errorf("%q: %t", one, got)
		}
		for _, name := range []string{one + "ab", "a" + one + "b", "ab" + one} {
			if got, want := Right(name), b != 0 && b != '/'; got != want {
				t.Errorf("%q: %t", name, got)
			}
		}
	}
}

func TestRightOfEveryLength(t *testing.T) {
	for count := range 600 {
		for _, one := range []string{"n", "\x80"} {
			if got, want := Right(strings.Repeat(one, count)), count >= 1 && count <= 48; got != want {
				t.Errorf("%d bytes: %t", count, got)
			}
		}
		if got, want := Right(strings.Repeat(".", count)), count >= 3 && count <= 48; got != want {
			t.Errorf("%d dots: %t", count, got)
		}
	}
}

// P8.1: May

func TestMay(t *testing.T) {
	for _, n := range may() {
		if !n.May() {
			t.Errorf("%q, %d", n.Name, n.Inode)
		}
	}
}

func TestMayNot(t *testing.T) {
	for _, n := range mayNot() {
		if n.May() {
			t.Errorf("%q, %d", n.Name, n.Inode)
		}
	}
}

func TestMayOfEveryInode(t *testing.T) {
	for inode := -70000; inode < 140000; inode++ {
		if got, want := (Entry{"a", inode}).May(), inode >= 0 && inode <= 65533; got != want {
			t.Fatal(inode, got)
		}
	}
}

// P8.1: Encode

func TestEncodeIsWhatIsMeant(t *testing.T) {
	for _, n := range may() {
		if b, e := Encode(n); e != api.OK || !bytes.Equal(b, meant(n)) {
			t.Errorf("Encode(%q, %d): %x, %d, want %x", n.Name, n.Inode, b, e, meant(n))
		}
	}
}

func TestEncodeByHand(t *testing.T) {
	b, e := Encode(Entry{"ab", 258})
	if e != api.OK || len(b) != 64 {
		t.Fatal(b, e)
	}
	if !bytes.Equal(b[:7], []byte{2, 1, 2, 0, 'a', 'b', 0}) || !bytes.Equal(b[7:60], make([]byte, 53)) {
		t.Errorf("%x", b)
	}
	if sum := crc32.ChecksumIEEE(b[:60]); b[60] != byte(sum) || b[61] != byte(sum>>8) || b[62] != byte(sum>>16) || b[63] != byte(sum>>24) {
		t.Errorf("%x, the sum %x", b, sum)
	}
}

func TestEncodeOfTheLongestName(t *testing.T) {
	name := strings.Repeat("\xFF", 47) + "e"
	b, e := Encode(Entry{name, 65533})
	if e != api.OK || len(b) != 64 || !bytes.Equal(b[:4], []byte{0xFD, 0xFF, 48, 0}) || string(b[4:52]) != name || !bytes.Equal(b[52:60], make([]byte, 8)) {
		t.Errorf("%x, %d", b, e)
	}
}

func TestEncodeOfWhatMayNotBe(t *testing.T) {
	for _, n := range mayNot() {
		if b, e := Encode(n); e != api.ErrArg || len(b) != 0 {
			t.Errorf("Encode(%q, %d): %x, %d", n.Name, n.Inode, b, e)
		}
	}
}

// P8.1: Decode

func TestDecodeTellsTheEntry(t *testing.T) {
	for _, n := range may() {
		mustBe(t, n, meant(n))
	}
}

func TestDecodeOfAnotherCount(t *testing.T) {
	own := meant(Entry{"ab", 258})
	mustBeNone(t, nil)
	mustBeNone(t, []byte{})
	for count := range 64 {
		// What is cut off still stands in the spare room, but isn't handed in.
		mustBeNone(t, own[:count])
		mustBeNone(t, slices.Clone(own[:count]))
		mustBeNone(t, own[64-count:])
		mustBeNone(t, make([]byte, count))
	}
	for count := 1; count < 200; count++ {
		mustBeNone(t, append(slices.Clone(own), make([]byte, count)...))
		mustBeNone(t, append(make([]byte, count), own...))
	}
	mustBeNone(t, append(slices.Clone(own), own...))
	// A nought too few, or one too many, with the sum that fits.
	mustBeNone(t, summed(own[:59]))
	mustBeNone(t, summed(append(slices.Clone(own[:60]), 0)))
}

func TestDecodeOf64AmongMore(t *testing.T) {
	n, m := Entry{"ab", 258}, Entry{"c", 3}
	b := joined(n, m)
	mustBe(t, n, b[:64])
	mustBe(t, m, b[64:])
	mustBeNone(t, b[32:96])
	mustBeNone(t, b[1:65])
}

func TestDecodeOfOtherBytes(t *testing.T) {
	for _, one := range []byte{0, 1, '.', '/', 'a', 48, 0x80, 0xFF} {
		mustBeNone(t, bytes.Repeat([]byte{one}, 64))
		mustBeNone(t, summed(bytes.Repeat([]byte{one}, 60)))
	}
}

func TestDecodeOfEachBitTurned(t *testing.T) {
	for _, n := range []Entry{{"a", 0}, {"ab", 258}, {"...", 65533}, {"\x80\xFF", 1}, {strings.Repeat("z", 47), 65532}, {strings.Repeat("\xFF", 48), 65533}} {
		for bit := range 512 {
			b := meant(n)
			b[bit/8] ^= 1 << (bit % 8)
			mustBeNone(t, b)
		}
	}
}

func TestDecodeOfOtherSums(t *testing.T) {
	r := chance(2)
	own := meant(Entry{"ab", 258})
	sum := binary.LittleEndian.Uint32(own[60:])
	for _, other := range []uint32{0, math.MaxUint32, ^sum, sum + 1, sum - 1, sum<<16 | sum>>16, sum<<8 | sum>>24, binary.BigEndian.Uint32(own[60:]), r.Uint32(), r.Uint32()} {
		if other != sum {
			mustBeNone(t, binary.LittleEndian.AppendUint32(slices.Clone(own[:60]), other))
		}
	}
	// A sum of fewer bytes, and of more.
	for count := range 60 {
		mustBeNone(t, binary.LittleEndian.AppendUint32(slices.Clone(own[:60]), crc32.ChecksumIEEE(own[:count])))
	}
}

func TestDecodeOfEveryLengthWithASumThatFits(t *testing.T) {
	for _, name := range []string{"a", "ab", "abc", strings.Repeat("z", 47), strings.Repeat("z", 48)} {
		n := Entry{name, 258}
		for length := range 256 {
			b := changed(n, func(b []byte) { b[2] = byte(length) })
			if length == len(name) {
				mustBe(t, n, b)
			} else {
				mustBeNone(t, b)
			}
		}
	}
	// Bytes where a name of 49, or of 56, would go on: it is none all the same.
	for _, count := range []int{49, 50, 55, 56} {
		mustBeNone(t, changed(Entry{"a", 1}, func(b []byte) {
			b[2] = byte(count)
			copy(b[4:], strings.Repeat("z", count))
		}))
	}
}

// TestDecodeOfAByteSetWithASumThatFits sets each byte that an entry has as 0: the fourth one, those behind the name, the eight.
func TestDecodeOfAByteSetWithASumThatFits(t *testing.T) {
	for _, name := range []string{"a", "ab", "...", strings.Repeat("z", 47), strings.Repeat("z", 48)} {
		n := Entry{name, 258}
		places := []int{3}
		for at := 4 + len(name); at < 60; at++ {
			places = append(places, at)
		}
		for _, at := range places {
			for _, one := range []byte{1, '.', '/', 'a', 0x80, 0xFF} {
				mustBeNone(t, changed(n, func(b []byte) { b[at] = one }))
			}
		}
	}
}

func TestDecodeOfEveryInodeWithASumThatFits(t *testing.T) {
	// One that is wrong is enough to be told.
	for inode := 0; inode < 65536 && !t.Failed(); inode++ {
		n := Entry{"a", inode}
		if inode <= 65533 {
			mustBe(t, n, meant(n))
		} else {
			mustBeNone(t, meant(n))
		}
	}
}

func TestDecodeOfNoNameWithASumThatFits(t *testing.T) {
	for _, name := range noNames() {
		if len(name) <= 48 {
			mustBeNone(t, meant(Entry{name, 258}))
		}
	}
	// A 0 within the name, so that it would end ahead of its length; and one behind it, that would make it longer.
	mustBeNone(t, changed(Entry{"abc", 1}, func(b []byte) { b[5] = 0 }))
	mustBeNone(t, changed(Entry{"abc", 1}, func(b []byte) { b[6] = 0 }))
	mustBeNone(t, changed(Entry{"abc", 1}, func(b []byte) { b[8] = 'd' }))
}

// P8.2: All

func TestAllOfNone(t *testing.T) {
	mustHold(t, nil, nil)
	mustHold(t, nil, []byte{})
	// What stands in the spare room isn't the directory's.
	mustHold(t, nil, joined(many(2)...)[:0])
}

func TestAllInOrder(t *testing.T) {
	for _, count := range []int{1, 2, 3, 10, 100, 1000} {
		l := many(count)
		mustHold(t, l, joined(l...))
		slices.Reverse(l)
		mustHold(t, l, joined(l...))
	}
	l := []Entry{{"b", 1}, {"c", 0}, {"a", 2}, {"...", 65533}, {"B", 3}, {"\xFF", 4}, {strings.Repeat("z", 48), 5}}
	mustHold(t, l, joined(l...))
}

func TestAllOfAsManyAsThereAreInodes(t *testing.T) {
	l := many(65534)
	b := joined(l...)
	mustHold(t, l, b)
	mustHoldNone(t, append(b, meant(Entry{"n0", 9})...))
}

func TestAllOfNoMultipleOf64(t *testing.T) {
	b := joined(many(3)...)
	for count := range len(b) + 1 {
		if count%64 == 0 {
			mustHold(t, many(count/64), b[:count])
		} else {
			mustHoldNone(t, b[:count])
			mustHoldNone(t, b[len(b)-count:])
		}
	}
	for count := 1; count < 64; count++ {
		mustHoldNone(t, append(slices.Clone(b), make([]byte, count)...))
	}
}

func TestAllOfWhatIsNoEntry(t *testing.T) {
	bad := [][]byte{
		make([]byte, 64), bytes.Repeat([]byte{0xFF}, 64), summed(make([]byte, 60)),
		meant(Entry{"", 1}), meant(Entry{".", 1}), meant(Entry{"..", 1}), meant(Entry{"a/b", 1}), meant(Entry{"x", 65534}), meant(Entry{"x", 65535}),
		changed(Entry{"x", 1}, func(b []byte) { b[2] = 49 }), changed(Entry{"x", 1}, func(b []byte) { b[2] = 255 }), changed(Entry{"x", 1}, func(b []byte) { b[3] = 1 }), changed(Entry{"x", 1}, func(b []byte) { b[59] = 1 }),
	}
	for _, b := range bad {
		mustHoldNone(t, b)
		for count := 1; count < 6; count++ {
			for at := range count + 1 {
				mustHoldNone(t, slices.Insert(joined(many(count)...), 64*at, b...))
			}
		}
	}
}

func TestAllOfEachBitTurned(t *testing.T) {
	b := joined(many(3)...)
	for bit := range 8 * len(b) {
		b[bit/8] ^= 1 << (bit % 8)
		mustHoldNone(t, b)
		b[bit/8] ^= 1 << (bit % 8)
	}
	mustHold(t, many(3), b)
}

// twices are lists of entries that may be, of which two have one name: side by side and far apart, with one Inode and with two.
func twices() [][]Entry {
	l := [][]Entry{
		{{"x", 1}, {"x", 1}}, {{"x", 1}, {"x", 2}}, {{"x", 1}, {"x", 1}, {"x", 1}},
		{{"\xFF", 0}, {"\xFF", 65533}}, {{strings.Repeat("z", 48), 1}, {"y", 1}, {strings.Repeat("z", 48), 2}},
	}
	for _, count := range []int{1, 2, 5, 300} {
		for _, first := range []int{0, count / 2, count - 1} {
			for at := range min(count+1, 6) {
				twin := many(count)[first]
				other := Entry{twin.Name, twin.Inode + 1}
				l = append(l, slices.Insert(many(count), at, twin), slices.Insert(many(count), at, other), slices.Insert(many(count), count-at, twin), slices.Insert(many(count), count-at, other))
			}
		}
	}
	return l
}

func TestAllOfOneNameTwice(t *testing.T) {
	for _, l := range twices() {
		mustHoldNone(t, joined(l...))
	}
}

// alikes are entries that look alike, but have names of their own.
func alikes() []Entry {
	return []Entry{{"x", 1}, {"X", 1}, {"x ", 1}, {" x", 1}, {"xx", 1}, {"x.", 1}, {".x", 1}, {"xxx", 1}, {"é", 1}, {"e\u0301", 1}, {"\xE9", 1}, {"...", 1}, {"....", 1}, {strings.Repeat("x", 47), 1}, {strings.Repeat("x", 48), 1}, {strings.Repeat("x", 47) + "y", 1}, {"\x80", 1}, {"\x81", 1}, {"\uFFFD", 1}}
}

func TestAllOfOneInodeTwice(t *testing.T) {
	mustHold(t, alikes(), joined(alikes()...))
	mustHold(t, []Entry{{"x", 0}, {"y", 0}}, joined(Entry{"x", 0}, Entry{"y", 0}))
	mustHold(t, []Entry{{"x", 65533}, {"y", 1}, {"z", 65533}}, joined(Entry{"x", 65533}, Entry{"y", 1}, Entry{"z", 65533}))
}

// P8.2: Join

func TestJoinOfNone(t *testing.T) {
	mustJoin(t, nil)
	mustJoin(t, nil, []Entry{}...)
	mustJoin(t, nil, many(2)[:0]...)
}

func TestJoinInOrder(t *testing.T) {
	for _, count := range []int{1, 2, 3, 10, 100, 1000, 65534} {
		l := many(count)
		mustJoin(t, joined(l...), l...)
		slices.Reverse(l)
		mustJoin(t, joined(l...), l...)
	}
	l := []Entry{{"b", 1}, {"c", 0}, {"a", 2}, {"...", 65533}, {"B", 3}, {"\xFF", 4}, {strings.Repeat("z", 48), 5}}
	mustJoin(t, joined(l...), l...)
}

func TestJoinOfWhatMayNotBe(t *testing.T) {
	for _, n := range mayNot() {
		mustNotJoin(t, n)
		for at := range 4 {
			mustNotJoin(t, slices.Insert(many(3), at, n)...)
		}
	}
	// Two that may not be, of one name and of two; one beside a name that is there twice.
	mustNotJoin(t, Entry{}, Entry{})
	mustNotJoin(t, Entry{".", 1}, Entry{"..", 1})
	mustNotJoin(t, Entry{"x", 1}, Entry{"", 1}, Entry{"x", 1})
	mustNotJoin(t, Entry{"x", 1}, Entry{"x", 65534})
}

func TestJoinOfOneNameTwice(t *testing.T) {
	for _, l := range twices() {
		mustNotJoin(t, l...)
	}
	mustNotJoin(t, append(many(65534), Entry{"n0", 9})...)
}

func TestJoinOfOneInodeTwice(t *testing.T) {
	mustJoin(t, joined(alikes()...), alikes()...)
	mustJoin(t, joined(Entry{"x", 0}, Entry{"y", 0}), Entry{"x", 0}, Entry{"y", 0})
}

// P8.3: there and back, and nothing else

func TestThereAndBack(t *testing.T) {
	for _, n := range may() {
		b, e := Encode(n)
		if e != api.OK {
			t.Fatalf("Encode(%q, %d): %d", n.Name, n.Inode, e)
		}
		mustBe(t, n, b)
	}
}

func TestOneListOfBytesEach(t *testing.T) {
	seen := map[string]Entry{}
	for _, n := range may() {
		b, _ := Encode(n)
		if other, is := seen[string(b)]; is && other != n {
			t.Errorf("%q and %q have the same bytes", n.Name, other.Name)
		}
		seen[string(b)] = n
	}
}

func TestDirectoriesThereAndBack(t *testing.T) {
	r := chance(3)
	for count := range 60 {
		l := make([]Entry, count)
		for k := range l {
			// Long enough that no two are one by chance.
			l[k] = Entry{someName(r, 12+r.IntN(37)), r.IntN(65534)}
		}
		b, e := Join(l...)
		if e != api.OK || len(b) != 64*count {
			t.Fatal(count, len(b), e)
		}
		mustHold(t, l, b)
	}
}

func TestJoinIsEncodeOneBehindTheOther(t *testing.T) {
	var want []byte
	for _, n := range alikes() {
		b, _ := Encode(n)
		want = append(want, b...)
	}
	mustJoin(t, want, alikes()...)
}

// TestWhatIsDecodedIsEncodedSo takes bytes that are nearly an entry's, with a sum that fits: those that are decoded are just the bytes of what they are decoded to.
func TestWhatIsDecodedIsEncodedSo(t *testing.T) {
	r := chance(4)
	decoded, refused := 0, 0
	for range 20000 {
		count := 1 + r.IntN(48)
		b := changed(Entry{someName(r, count), r.IntN(65536)}, func(b []byte) {
			if r.IntN(2) == 0 {
				b[r.IntN(60)] = byte(r.Uint32())
			}
		})
		n, e := Decode(b)
		if e != api.OK {
			refused++
			continue
		}
		decoded++
		if back, e := Encode(n); e != api.OK || !bytes.Equal(back, b) || !n.May() {
			t.Errorf("%x: %q, then %x, %d", b, n.Name, back, e)
		}
		mustHold(t, []Entry{n}, b)
	}
	if decoded < 1000 || refused < 1000 {
		t.Error("hardly any:", decoded, refused)
	}
}

func TestAnyBytesAreHardlyEverAnEntrys(t *testing.T) {
	r := chance(5)
	b := make([]byte, 64)
	for range 20000 {
		for k := range b {
			b[k] = byte(r.Uint32())
		}
		mustBeNone(t, b)
		mustHoldNone(t, b)
	}
}

// P8.3: memory

func TestWhatIsHandedInIsNotChanged(t *testing.T) {
	good := joined(many(4)...)
	bad := slices.Clone(good)
	bad[70] ^= 1
	for _, room := range [][]byte{good, bad} {
		before := slices.Clone(room)
		for count := range len(room) + 1 {
			Decode(room[:min(count, 64)])
			All(room[:count])
		}
		if !bytes.Equal(room, before) {
			t.Error("bytes were changed")
		}
	}
	for _, l := range [][]Entry{many(5), {{"x", 1}, {"x", 2}, {"y", 3}}, {{"x", 1}, {}, {"/", -1}}} {
		before := slices.Clone(l)
		for count := range len(l) + 1 {
			Join(l[:count]...)
		}
		if !slices.Equal(l, before) {
			t.Error("entries were changed")
		}
	}
}

func TestWhatIsHandedInIsNotKept(t *testing.T) {
	b := joined(many(3)...)
	n, _ := Decode(b[:64])
	l, _ := All(b)
	clear(b)
	if n != many(1)[0] || !slices.Equal(l, many(3)) {
		t.Error("what was answered changed with the bytes:", n, l)
	}
	mustHoldNone(t, b)
	copy(b, joined(alikes()[:3]...))
	mustHold(t, alikes()[:3], b)
	list := many(3)
	got, _ := Join(list...)
	clear(list)
	if !bytes.Equal(got, joined(many(3)...)) {
		t.Error("what was answered changed with the entries")
	}
	mustNotJoin(t, list...)
}

func TestAnswersAreNewMemory(t *testing.T) {
	n := Entry{"ab", 258}
	first, _ := Encode(n)
	second, _ := Encode(n)
	// As far as the answer's room goes.
	clear(first[:cap(first)])
	if !bytes.Equal(second, meant(n)) {
		t.Error("two answers of Encode share memory")
	}
	firstBytes, _ := Join(many(3)...)
	secondBytes, _ := Join(many(3)...)
	clear(firstBytes[:cap(firstBytes)])
	if !bytes.Equal(secondBytes, joined(many(3)...)) {
		t.Error("two answers of Join share memory")
	}
	b := joined(many(3)...)
	firstList, _ := All(b)
	secondList, _ := All(b)
	clear(firstList[:cap(firstList)])
	if !slices.Equal(secondList, many(3)) || !bytes.Equal(b, joined(many(3)...)) {
		t.Error("two answers of All share memory")
	}
	mustHold(t, many(3), b)
	mustJoin(t, b, many(3)...)
}

// An error leaves nothing behind that a later call could tell.
func TestAnErrorIsForgotten(t *testing.T) {
	for range 3 {
		mustNotJoin(t, Entry{"x", 1}, Entry{"x", 1})
		mustJoin(t, joined(Entry{"x", 1}), Entry{"x", 1})
		mustHoldNone(t, joined(Entry{"x", 1}, Entry{"x", 1}))
		mustHold(t, []Entry{{"x", 1}}, joined(Entry{"x", 1}))
	}
}
