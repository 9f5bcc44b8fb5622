package path

import (
	"bytes"
	"math/rand/v2"
	"slices"
	"strconv"
	"strings"
	"testing"

	"cantle/api"
)

// chance is a source of many numbers, always the same ones.
func chance(seed uint64) *rand.Rand { return rand.New(rand.NewPCG(seed, 12)) }

// told is a text in short, so that that of a long path can be told.
func told(text string) string {
	if len(text) > 200 {
		return strconv.Quote(text[:200]) + ".. of " + strconv.Itoa(len(text)) + " bytes"
	}
	return strconv.Quote(text)
}

// isName tells what a name is by chapter 8, byte by byte.
func isName(text string) bool {
	dots := 0
	for b := range len(text) {
		switch text[b] {
		case 0, 47:
			return false
		case 46:
			dots++
		}
	}
	return len(text) >= 1 && len(text) <= 48 && !(dots == len(text) && dots <= 2)
}

// splitOf is what Split tells by its meaning, byte by byte.
func splitOf(text string) ([]string, bool) {
	if text == "/" {
		return nil, true
	}
	if text == "" || text[0] != '/' {
		return nil, false
	}
	var parts []string
	for b := range len(text) {
		if text[b] == '/' {
			parts = append(parts, "")
		} else {
			parts[len(parts)-1] += text[b : b+1]
		}
	}
	if len(parts) > 64 || slices.ContainsFunc(parts, func(part string) bool { return !isName(part) }) {
		return nil, false
	}
	return parts, true
}

// joinOf is the text with a / ahead of each of these, whatever they are.
func joinOf(names ...string) string {
	var text []byte
	for _, name := range names {
		text = append(append(text, '/'), name...)
	}
	if len(names) == 0 {
		return "/"
	}
	return string(text)
}

// beforeOf is what Before tells by its meaning.
func beforeOf(a, b []string) bool {
	for k := 0; ; k++ {
		switch {
		case k == len(a):
			return k < len(b)
		case k == len(b):
			return false
		}
		if c := bytes.Compare([]byte(a[k]), []byte(b[k])); c != 0 {
			return c < 0
		}
	}
}

// some are so many names, no two of them alike.
func some(count int) []string {
	l := make([]string, count)
	for k := range l {
		l[k] = "n" + strconv.Itoa(k)
	}
	return l
}

// someName is a name by chance, of all bytes that one may have.
func someName(r *rand.Rand) string {
	for {
		b := make([]byte, 1+r.IntN(48))
		for k := range b {
			b[k] = byte(r.Uint32())
		}
		if name := string(b); isName(name) {
			return name
		}
	}
}

// names are such as may be: short and long ones, with dots, with spaces, of bytes that are no UTF-8.
func names() []string {
	l := []string{
		"a", "ab", "A", "...", "....", ".a", "a.", "..a", "a..", ". ", " .",
		" ", "  ", " a", "a ", "a b", "\t", "\n", "\r\n", "\\", "\x01", "\x7F",
		"é", "日本", "\x80", "\xFF", "\xFF\xFE", "\xC0\xAF", "\xE2\x88", "a\xFFb", "\xED\xA0\x80", "\u2215", "\uFF0F",
		strings.Repeat("z", 47), strings.Repeat("z", 48), strings.Repeat(".", 48), strings.Repeat(" ", 48), strings.Repeat("\xFF", 48), strings.Repeat("é", 24),
	}
	for b := 1; b < 256; b++ {
		if b != '/' && b != '.' {
			l = append(l, string([]byte{byte(b)}))
		}
	}
	return l
}

// plainNoNames are no names, and have no / in them.
func plainNoNames() []string {
	l := []string{
		"", ".", "..", "\x00", "\x00\x00", "\x00a", "a\x00", "a\x00b", "..\x00", "é\x00é", "\xFF\x00",
		strings.Repeat("z", 47) + "\x00", "\x00" + strings.Repeat("z", 47),
		// 48 runes, but more bytes.
		strings.Repeat("é", 25), strings.Repeat("é", 48),
	}
	for _, count := range []int{49, 50, 64, 255, 256, 257, 304, 65536, 65584} {
		l = append(l, strings.Repeat("z", count), strings.Repeat(".", count), strings.Repeat("\xFF", count))
	}
	return l
}

// noNames are no names, of each kind that chapter 8 tells.
func noNames() []string {
	return append(plainNoNames(), "/", "//", "/a", "a/", "a/b", "./", "/..", "/\x00", "a/\x00", "\xFF/", "é/é", strings.Repeat("z", 47)+"/", strings.Repeat("/", 48), strings.Repeat("/", 49))
}

// rightLists are lists of names that have a path.
func rightLists() [][]string {
	l := [][]string{nil, {}, {"a"}, {"a", "b"}, {"a", "a"}, {"a", "b c", "é"}, {"...", "...."}, {" ", "  "}, {"b", "a"}}
	for _, name := range names() {
		l = append(l, []string{name}, []string{name, "x", "y"}, []string{"x", name, "y"}, []string{"x", "y", name})
	}
	r := chance(1)
	for count := range 65 {
		l = append(l, some(count))
		long := make([]string, count)
		other := make([]string, count)
		for k := range long {
			long[k] = strings.Repeat("z", 48)
			other[k] = someName(r)
		}
		l = append(l, long, other)
	}
	return l
}

func mustSplit(t *testing.T, text string, want ...string) {
	t.Helper()
	if got, e := Split(text); e != api.OK || !slices.Equal(got, want) {
		t.Fatalf("Split of %s: %q, %d, want %q", told(text), got, e, want)
	}
}

// mustNotSplit fails, unless a text is no path, and no names stand beside that.
func mustNotSplit(t *testing.T, text string) {
	t.Helper()
	if got, e := Split(text); e != api.ErrName || len(got) != 0 {
		t.Fatalf("Split of %s: %q, %d", told(text), got, e)
	}
}

func mustJoin(t *testing.T, want string, names ...string) {
	t.Helper()
	if got, e := Join(names...); e != api.OK || got != want {
		t.Fatalf("Join of %q: %q, %d, want %q", names, got, e, want)
	}
}

// mustNotJoin fails, unless some texts have no path, and no text stands beside that.
func mustNotJoin(t *testing.T, names ...string) {
	t.Helper()
	if got, e := Join(names...); e != api.ErrName || got != "" {
		t.Fatalf("Join of %d, %s: %s, %d", len(names), told(strings.Join(names, "|")), told(got), e)
	}
}

func mustHaveParent(t *testing.T, wantDir []string, want string, names ...string) {
	t.Helper()
	if dir, name, is := Parent(names...); !is || name != want || !slices.Equal(dir, wantDir) {
		t.Fatalf("Parent of %q: %q, %q, %t", names, dir, name, is)
	}
}

// mustBeBefore fails, unless one stands ahead of the other one, and that one not ahead of it.
func mustBeBefore(t *testing.T, a, b []string) {
	t.Helper()
	if !Before(a, b) || Before(b, a) {
		t.Fatalf("Before(%q, %q): %t, the other way round %t", a, b, Before(a, b), Before(b, a))
	}
}

// mustBeAlike fails, unless none of the two stands ahead.
func mustBeAlike(t *testing.T, a, b []string) {
	t.Helper()
	if Before(a, b) || Before(b, a) {
		t.Fatalf("Before(%q, %q): %t, the other way round %t", a, b, Before(a, b), Before(b, a))
	}
}

// The example

func TestExample(t *testing.T) {
	mustSplit(t, "/a/b", "a", "b")
	for _, text := range []string{"a", "/a/", "//"} {
		mustNotSplit(t, text)
	}
}

// P12.1: Split

func TestSplitOfTheRoot(t *testing.T) {
	mustSplit(t, "/")
}

func TestSplitOfTheEmptyText(t *testing.T) {
	mustNotSplit(t, "")
}

func TestSplitByHand(t *testing.T) {
	mustSplit(t, "/a", "a")
	mustSplit(t, "/ab", "ab")
	mustSplit(t, "/a/b/c", "a", "b", "c")
	mustSplit(t, "/a/a", "a", "a")
	mustSplit(t, "/...", "...")
	mustSplit(t, "/.../....", "...", "....")
	mustSplit(t, "/.a/b.", ".a", "b.")
	mustSplit(t, "/\\", "\\")
	mustSplit(t, "/a\\b", "a\\b")
}

func TestSplitWithSpaces(t *testing.T) {
	mustSplit(t, "/ ", " ")
	mustSplit(t, "/ / ", " ", " ")
	mustSplit(t, "/a b/ c/d ", "a b", " c", "d ")
	mustSplit(t, "/\t/\n", "\t", "\n")
	mustNotSplit(t, " ")
	mustNotSplit(t, " /")
	mustNotSplit(t, " /a")
	mustSplit(t, "/a/ ", "a", " ")
}

func TestSplitOfNoUTF8(t *testing.T) {
	mustSplit(t, "/\xFF", "\xFF")
	mustSplit(t, "/\x80/\xC0\xAF", "\x80", "\xC0\xAF")
	mustSplit(t, "/a\xE2/\x88\x95b", "a\xE2", "\x88\x95b")
	mustNotSplit(t, "\xFF")
	mustNotSplit(t, "\xC0\xAFa")
	mustNotSplit(t, "/\xFF/")
	// Runes that look like a /, or whose lowest byte is one, are none.
	mustSplit(t, "/a\u2215b", "a\u2215b")
	mustSplit(t, "/a\uFF0Fb/\u012F", "a\uFF0Fb", "\u012F")
	mustNotSplit(t, "\uFF0Fa")
}

func TestSplitWithoutAMarkAhead(t *testing.T) {
	for _, text := range []string{"a", "ab", "a/b", "a/", "a//", "...", ".", "..", "./a", "../a", "\x00/a", "a/b/c", strings.Repeat("z", 48), strings.Repeat("z", 49)} {
		mustNotSplit(t, text)
	}
	for _, l := range rightLists() {
		if len(l) > 0 {
			mustNotSplit(t, joinOf(l...)[1:])
		}
	}
}

func TestSplitOfTwoMarksOneBehindTheOther(t *testing.T) {
	for _, text := range []string{"//", "///", "////", "//a", "/a//", "/a//b", "//a/b", "/a/b//", "/a//b/c", "/a/b//c", "///a", "/a///b", "//a//", "/ //"} {
		mustNotSplit(t, text)
	}
	for _, count := range []int{63, 64, 65, 66, 1000} {
		mustNotSplit(t, strings.Repeat("/", count))
	}
	for _, count := range []int{1, 2, 3, 10, 62, 63, 64} {
		for at := range count + 1 {
			mustNotSplit(t, joinOf(slices.Insert(some(count), at, "")...))
		}
	}
}

func TestSplitWithAMarkAtTheEnd(t *testing.T) {
	for _, l := range rightLists() {
		if len(l) > 0 {
			mustNotSplit(t, joinOf(l...)+"/")
		}
	}
}

func TestSplitOfAsManyAsMayBe(t *testing.T) {
	for count := 1; count <= 64; count++ {
		mustSplit(t, joinOf(some(count)...), some(count)...)
	}
	long := slices.Repeat([]string{strings.Repeat("z", 48)}, 64)
	mustSplit(t, joinOf(long...), long...)
}

func TestSplitOfMoreThanMayBe(t *testing.T) {
	for _, count := range []int{65, 66, 67, 127, 128, 129, 320, 65536, 65600} {
		mustNotSplit(t, joinOf(some(count)...))
	}
	mustNotSplit(t, strings.Repeat("/a", 65))
	mustNotSplit(t, strings.Repeat("/a", 1<<20))
	// Too many, of which the ones behind are no names, and of which the ones together would be one.
	mustNotSplit(t, joinOf(append(some(64), "")...))
	mustNotSplit(t, joinOf(append(some(64), ".")...))
	mustNotSplit(t, joinOf(append(some(63), "a", "b")...))
	mustNotSplit(t, strings.Repeat("/a", 64)+"/")
}

func TestSplitOfTheLongestName(t *testing.T) {
	longest, longer := strings.Repeat("z", 48), strings.Repeat("z", 49)
	mustSplit(t, "/"+longest, longest)
	mustNotSplit(t, "/"+longer)
	for at := range 4 {
		l := slices.Insert(some(3), at, longest)
		mustSplit(t, joinOf(l...), l...)
		mustNotSplit(t, joinOf(slices.Insert(some(3), at, longer)...))
	}
	// Bytes are counted, not runes.
	mustSplit(t, "/"+strings.Repeat("é", 24), strings.Repeat("é", 24))
	mustNotSplit(t, "/"+strings.Repeat("é", 25))
}

func TestSplitOfOneThatIsNoName(t *testing.T) {
	for _, bad := range plainNoNames() {
		if bad != "" {
			mustNotSplit(t, "/"+bad)
		}
		for _, count := range []int{1, 2, 5, 62, 63} {
			for _, at := range []int{0, count / 2, count} {
				mustNotSplit(t, joinOf(slices.Insert(some(count), at, bad)...))
			}
		}
	}
	for b := range 256 {
		name := string([]byte{'x', byte(b)})
		if b == 0 || b == '/' {
			mustNotSplit(t, "/"+name)
		} else {
			mustSplit(t, "/"+name, name)
		}
	}
}

func TestSplitOfAllNames(t *testing.T) {
	for _, l := range rightLists() {
		mustSplit(t, joinOf(l...), l...)
	}
}

// TestSplitOfEveryShortText asks all texts of a few bytes, of bytes that matter.
func TestSplitOfEveryShortText(t *testing.T) {
	paths := 0
	var ask func(text string)
	ask = func(text string) {
		if want, is := splitOf(text); is {
			mustSplit(t, text, want...)
			paths++
		} else {
			mustNotSplit(t, text)
		}
		if len(text) < 7 {
			for _, one := range []string{"/", ".", "a", "\x00", "\xFF"} {
				ask(text + one)
			}
		}
	}
	ask("")
	if paths < 1000 {
		t.Error("hardly any:", paths)
	}
}

// TestSplitAsMeant asks texts by chance, near to paths, with a byte or two changed.
func TestSplitAsMeant(t *testing.T) {
	r := chance(2)
	paths, others := 0, 0
	for range 20000 {
		l := make([]string, r.IntN(67))
		for k := range l {
			l[k] = someName(r)[:1] + strings.Repeat("y", r.IntN(4))
		}
		b := []byte(joinOf(l...))
		for range r.IntN(3) {
			b[r.IntN(len(b))] = "/.a\x00\xFF"[r.IntN(5)]
		}
		if want, is := splitOf(string(b)); is {
			mustSplit(t, string(b), want...)
			paths++
		} else {
			mustNotSplit(t, string(b))
			others++
		}
	}
	if paths < 1000 || others < 1000 {
		t.Error("hardly any:", paths, others)
	}
}

// P12.1: Join

func TestJoinOfNone(t *testing.T) {
	mustJoin(t, "/")
	mustJoin(t, "/", []string{}...)
	mustJoin(t, "/", some(3)[:0]...)
}

func TestJoinByHand(t *testing.T) {
	mustJoin(t, "/a", "a")
	mustJoin(t, "/a/b", "a", "b")
	mustJoin(t, "/b/a", "b", "a")
	mustJoin(t, "/a/a/a", "a", "a", "a")
	mustJoin(t, "/ /  ", " ", "  ")
	mustJoin(t, "/.../.a", "...", ".a")
	mustJoin(t, "/\xFF/é/\x80", "\xFF", "é", "\x80")
}

func TestJoinOfAsManyAsMayBe(t *testing.T) {
	for count := 1; count <= 64; count++ {
		mustJoin(t, joinOf(some(count)...), some(count)...)
	}
	long := slices.Repeat([]string{strings.Repeat("z", 48)}, 64)
	mustJoin(t, joinOf(long...), long...)
}

func TestJoinOfMoreThanMayBe(t *testing.T) {
	for _, count := range []int{65, 66, 67, 127, 128, 129, 320, 65536, 65600} {
		mustNotJoin(t, some(count)...)
		mustNotJoin(t, make([]string, count)...)
	}
}

func TestJoinOfOneThatIsNoName(t *testing.T) {
	for _, bad := range noNames() {
		mustNotJoin(t, bad)
		mustNotJoin(t, bad, bad)
		for _, count := range []int{1, 2, 5, 63} {
			for _, at := range []int{0, count / 2, count} {
				mustNotJoin(t, slices.Insert(some(count), at, bad)...)
			}
		}
	}
}

func TestJoinOfAllNames(t *testing.T) {
	for _, l := range rightLists() {
		mustJoin(t, joinOf(l...), l...)
	}
	for b := range 256 {
		name := string([]byte{'x', byte(b), 'y'})
		if b == 0 || b == '/' {
			mustNotJoin(t, "a", name)
		} else {
			mustJoin(t, "/a/"+name, "a", name)
		}
	}
}

// P12.1: Parent

func TestParentOfNone(t *testing.T) {
	for _, l := range [][]string{nil, {}, some(3)[:0]} {
		if dir, name, is := Parent(l...); is || name != "" || len(dir) != 0 {
			t.Errorf("%q, %q, %t", dir, name, is)
		}
	}
}

func TestParent(t *testing.T) {
	mustHaveParent(t, nil, "a", "a")
	mustHaveParent(t, []string{"a"}, "b", "a", "b")
	mustHaveParent(t, []string{"a", "b"}, "c", "a", "b", "c")
	mustHaveParent(t, []string{"a", "a"}, "a", "a", "a", "a")
	for _, l := range rightLists() {
		if len(l) > 0 {
			mustHaveParent(t, l[:len(l)-1], l[len(l)-1], l...)
		}
	}
}

// TestParentAsksForNoNames: neither what they are, nor how many.
func TestParentAsksForNoNames(t *testing.T) {
	for _, bad := range noNames() {
		mustHaveParent(t, nil, bad, bad)
		mustHaveParent(t, []string{bad}, "x", bad, "x")
		mustHaveParent(t, []string{"x"}, bad, "x", bad)
		mustHaveParent(t, []string{"x", bad}, bad, "x", bad, bad)
	}
	for _, count := range []int{64, 65, 66, 1000, 65536} {
		l := some(count)
		mustHaveParent(t, l[:count-1], l[count-1], l...)
	}
}

func TestParentAgainAndAgain(t *testing.T) {
	l := some(64)
	for count := 63; count >= 0; count-- {
		dir, name, is := Parent(l...)
		if !is || len(dir) != count || name != "n"+strconv.Itoa(count) {
			t.Fatal(count, dir, name, is)
		}
		l = dir
	}
	if dir, name, is := Parent(l...); is || name != "" || len(dir) != 0 {
		t.Error(dir, name, is)
	}
}

// P12.2: Before

func TestBeforeOfTheRoot(t *testing.T) {
	mustBeAlike(t, nil, nil)
	mustBeAlike(t, nil, []string{})
	mustBeAlike(t, []string{}, []string{})
	mustBeBefore(t, nil, []string{"a"})
	mustBeBefore(t, []string{}, []string{"\x01"})
	// A name of no bytes is one more, all the same.
	mustBeBefore(t, nil, []string{""})
	mustBeBefore(t, []string{""}, []string{"", ""})
}

func TestBeforeOfTheSame(t *testing.T) {
	for _, l := range rightLists() {
		mustBeAlike(t, l, l)
		mustBeAlike(t, l, slices.Clone(l))
	}
}

func TestBeforeOfABeginning(t *testing.T) {
	mustBeBefore(t, []string{"a"}, []string{"a", "b"})
	mustBeBefore(t, []string{"b"}, []string{"b", "a"})
	mustBeBefore(t, []string{"a", "b"}, []string{"a", "b", "c", "d"})
	for _, l := range rightLists() {
		for count := range len(l) {
			mustBeBefore(t, l[:count], l)
		}
	}
}

func TestBeforeByTheFirstNameThatIsUnlike(t *testing.T) {
	mustBeBefore(t, []string{"a"}, []string{"b"})
	// In the first, in a middle, and in the last name, whatever stands behind, and however many.
	mustBeBefore(t, []string{"a", "y", "z"}, []string{"b", "x", "x"})
	mustBeBefore(t, []string{"x", "a", "z"}, []string{"x", "b", "y"})
	mustBeBefore(t, []string{"x", "y", "a"}, []string{"x", "y", "b"})
	mustBeBefore(t, []string{"a", "z", "z", "z"}, []string{"b"})
	mustBeBefore(t, []string{"a"}, []string{"b", "a", "a"})
	mustBeBefore(t, []string{"x", "a", "z"}, []string{"x", "b"})
	mustBeBefore(t, []string{"x", "a"}, []string{"x", "b", "a"})
	for count := 1; count <= 64; count++ {
		for at := range count {
			low, high := some(count), some(count)
			high[at] += "z"
			mustBeBefore(t, low, high)
			mustBeBefore(t, low, high[:at+1])
			mustBeBefore(t, low[:at+1], high)
			// The ones behind are the other way round.
			for k := at + 1; k < count; k++ {
				low[k] += "z"
			}
			mustBeBefore(t, low, high)
		}
	}
}

func TestBeforeOfANameThatBeginsAnotherOne(t *testing.T) {
	mustBeBefore(t, []string{"a"}, []string{"aa"})
	mustBeBefore(t, []string{"a", "z"}, []string{"aa"})
	mustBeBefore(t, []string{"a", "z"}, []string{"aa", "a"})
	mustBeBefore(t, []string{"x", "a", "z"}, []string{"x", "aa"})
	mustBeBefore(t, []string{"aa"}, []string{"b"})
	// By names, not by the path's text: these bytes are below that of a /.
	for b := byte(0); b < '/'; b++ {
		mustBeBefore(t, []string{"a", "b"}, []string{"a" + string([]byte{b})})
		mustBeBefore(t, []string{"a", "b"}, []string{"a" + string([]byte{b}), "a"})
	}
	// Nor by the bytes that all names have together.
	mustBeBefore(t, []string{"a", "bc"}, []string{"ab", "c"})
	mustBeBefore(t, []string{"a", "z"}, []string{"ab"})
}

func TestBeforeByBytes(t *testing.T) {
	for a := range 256 {
		for b := range 256 {
			low, high := string([]byte{byte(a)}), string([]byte{byte(b)})
			for _, ahead := range []string{"", "a", "\xFF"} {
				if got := Before([]string{ahead + low}, []string{ahead + high}); got != (a < b) {
					t.Fatalf("Before(%q, %q): %t", ahead+low, ahead+high, got)
				}
				if got := Before([]string{"x", ahead + low, "y"}, []string{"x", ahead + high}); got != (a < b) {
					t.Fatalf("Before(%q, %q) behind x: %t", ahead+low, ahead+high, got)
				}
			}
		}
	}
	mustBeBefore(t, []string{"a"}, []string{"\x80"})
	mustBeBefore(t, []string{"\x7F"}, []string{"\x80"})
	mustBeBefore(t, []string{"\xFE"}, []string{"\xFF"})
	mustBeBefore(t, []string{"é"}, []string{"\xFF"})
	mustBeBefore(t, []string{"z"}, []string{"é"})
	mustBeBefore(t, []string{"Z"}, []string{"a"})
	// By UTF-16 these would be the other way round.
	mustBeBefore(t, []string{"\uFFFD"}, []string{"\U00010000"})
	// Bytes that are no UTF-8 aren't all one.
	mustBeBefore(t, []string{"\x80"}, []string{"\x81"})
	mustBeBefore(t, []string{"\uFFFD"}, []string{"\xFF"})
}

// TestBeforeAsksForNoNames: neither what they are, nor how many.
func TestBeforeAsksForNoNames(t *testing.T) {
	bad := noNames()
	for _, one := range bad {
		for _, other := range bad {
			a, b := []string{"x", one}, []string{"x", other}
			if got := Before(a, b); got != beforeOf(a, b) {
				t.Fatalf("Before(%s, %s): %t", told(one), told(other), got)
			}
		}
	}
	for _, count := range []int{64, 65, 1000, 65536} {
		l, more := some(count), append(some(count), "a")
		mustBeBefore(t, l, more)
		mustBeAlike(t, l, some(count))
		more[count-1] = "m"
		mustBeBefore(t, more, l)
	}
}

// TestBeforeAsMeant asks all lists of few names, of few bytes, each with each other one.
func TestBeforeAsMeant(t *testing.T) {
	parts := []string{"", "a", "aa", "b", "!", "\x00", "\x80", "\xFF"}
	lists := [][]string{nil}
	for from := 0; len(lists) < 1+8+64+512; from++ {
		for _, part := range parts {
			lists = append(lists, append(slices.Clone(lists[from]), part))
		}
	}
	for _, a := range lists {
		for _, b := range lists {
			if got := Before(a, b); got != beforeOf(a, b) {
				t.Fatalf("Before(%q, %q): %t", a, b, got)
			}
			if Before(a, b) && Before(b, a) || Before(a, b) != Before(b, a) && slices.Equal(a, b) || !slices.Equal(a, b) && !Before(a, b) && !Before(b, a) {
				t.Fatalf("Before(%q, %q): %t, the other way round %t", a, b, Before(a, b), Before(b, a))
			}
		}
	}
}

// TestBeforeIsAnOrder: whatever order some paths stand in first, sorted by it they stand in one, each directory ahead of what is in it.
func TestBeforeIsAnOrder(t *testing.T) {
	var want [][]string
	for _, text := range []string{"/", "/B", "/a", "/a/a", "/a/a/z", "/a/b", "/a!", "/a!/a", "/a.b", "/aa", "/aa/a", "/b", "/b/\x80", "/b/\xFF", "/é", "/\xFF"} {
		l, e := Split(text)
		if e != api.OK {
			t.Fatal(text, e)
		}
		want = append(want, l)
	}
	r := chance(3)
	for range 200 {
		got := slices.Clone(want)
		r.Shuffle(len(got), func(i, j int) { got[i], got[j] = got[j], got[i] })
		slices.SortFunc(got, func(a, b []string) int {
			switch {
			case Before(a, b):
				return -1
			case Before(b, a):
				return 1
			}
			return 0
		})
		for k := range want {
			if !slices.Equal(got[k], want[k]) {
				t.Fatalf("%q, want %q", got, want)
			}
		}
	}
}

// P12.3: there and back

func TestWhatIsJoinedIsSplit(t *testing.T) {
	seen := map[string][]string{}
	for _, l := range rightLists() {
		text, e := Join(l...)
		if e != api.OK {
			t.Fatalf("Join of %q: %d", l, e)
		}
		mustSplit(t, text, l...)
		if other, is := seen[text]; is && !slices.Equal(other, l) {
			t.Fatalf("%q and %q have one path", l, other)
		}
		seen[text] = l
	}
}

func TestWhatIsSplitIsJoined(t *testing.T) {
	paths := 0
	var ask func(text string)
	ask = func(text string) {
		if l, e := Split(text); e == api.OK {
			mustJoin(t, text, l...)
			paths++
		}
		if len(text) < 8 {
			for _, one := range []string{"/", ".", "a", "\xFF"} {
				ask(text + one)
			}
		}
	}
	ask("")
	if paths < 1000 {
		t.Error("hardly any:", paths)
	}
	for _, l := range rightLists() {
		text := joinOf(l...)
		parts, e := Split(text)
		if e != api.OK {
			t.Fatal(told(text), e)
		}
		mustJoin(t, text, parts...)
	}
}

// TestParentAndNameAreThePath: what Parent tells, one behind the other, is what was handed in.
func TestParentAndNameAreThePath(t *testing.T) {
	for _, l := range rightLists() {
		if dir, name, is := Parent(l...); is {
			mustJoin(t, joinOf(l...), append(dir, name)...)
		}
	}
}

// P12.3: memory

// spoil changes a list and the room behind it.
func spoil(l []string) {
	l = l[:cap(l)]
	for k := range l {
		l[k] = "spoiled"
	}
}

func TestWhatIsHandedInIsNotChanged(t *testing.T) {
	lists := append(rightLists(), []string{"", "a"}, []string{"a", "/", "b"}, []string{"a", ".."}, some(65), some(66))
	for _, own := range lists {
		whole := slices.Concat(own, []string{"spare", "room"})
		before := slices.Clone(whole)
		l := whole[:len(own)]
		Join(l...)
		Parent(l...)
		Before(l, l)
		Before(l, whole)
		Before(whole, l)
		if !slices.Equal(whole, before) {
			t.Fatalf("%q: changed to %q", before, whole)
		}
	}
}

func TestWhatIsHandedInIsNotKept(t *testing.T) {
	for _, own := range rightLists() {
		if len(own) == 0 {
			continue
		}
		l := slices.Concat(own, []string{"spare", "room"})[:len(own)]
		text, _ := Join(l...)
		dir, name, _ := Parent(l...)
		spoil(l)
		if text != joinOf(own...) || !slices.Equal(dir, own[:len(own)-1]) || name != own[len(own)-1] {
			t.Fatalf("of %q: %q, %q, %q", own, text, dir, name)
		}
		mustJoin(t, joinOf(l...), l...)
	}
}

// TestTheParentIsNewMemory: what is answered is changed behind that, and what was handed in stays, in its spare room, too.
func TestTheParentIsNewMemory(t *testing.T) {
	for _, own := range append(rightLists(), some(65), []string{"", "/", "\x00"}) {
		whole := slices.Concat(own, []string{"spare", "room"})
		before := slices.Clone(whole)
		first, _, _ := Parent(whole[:len(own)]...)
		second, _, _ := Parent(whole[:len(own)]...)
		want := slices.Clone(second)
		spoil(first)
		if !slices.Equal(whole, before) {
			t.Fatalf("%q: changed to %q", before, whole)
		}
		if !slices.Equal(second, want) {
			t.Fatalf("of %q: two answers share memory", before)
		}
		// Nor does it grow into the last name.
		second = append(second, "grown", "more")
		if !slices.Equal(whole, before) {
			t.Fatalf("%q: changed to %q by %q", before, whole, second)
		}
	}
}

func TestSplitsAnswersAreNewMemory(t *testing.T) {
	for _, l := range rightLists() {
		text := joinOf(l...)
		first, _ := Split(text)
		second, _ := Split(text)
		spoil(first)
		if !slices.Equal(second, l) {
			t.Fatalf("of %q: two answers share memory", l)
		}
		mustSplit(t, text, l...)
	}
}

// An error leaves nothing behind that a later call could tell.
func TestAnErrorIsForgotten(t *testing.T) {
	for range 3 {
		mustNotSplit(t, "/a//b")
		mustSplit(t, "/a/b", "a", "b")
		mustNotJoin(t, "a", "")
		mustJoin(t, "/a", "a")
		mustNotSplit(t, "")
		mustSplit(t, "/")
	}
}
