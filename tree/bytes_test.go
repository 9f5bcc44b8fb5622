package tree

import (
	"bytes"
	"math"
	"math/rand/v2"
	"slices"
	"strconv"
	"strings"
	"testing"

	"cantle/api"
)

// letters are so many bytes, none of them 0.
func letters(count int) string {
	b := make([]byte, count)
	for k := range b {
		b[k] = byte('a' + k%26)
	}
	return string(b)
}

// ofBytes is a tree with a file /f, of these, and the plain one.
func ofBytes(t *testing.T, text string) (*Tree, plain) {
	t.Helper()
	return made(t, "/f="+text), plain{"/": {dir: true}, "/f": {data: []byte(text)}}
}

// P13.2: Write

func TestWriteByHand(t *testing.T) {
	for _, c := range []struct {
		own  string
		at   int
		b    string
		want string
	}{
		{"", 0, "xyz", "xyz"},
		{"abcdef", 0, "xy", "xycdef"},
		{"abcdef", 2, "xy", "abxyef"},
		{"abcdef", 4, "xy", "abcdxy"},
		{"abcdef", 5, "xy", "abcdexy"},
		{"abcdef", 6, "xy", "abcdefxy"},
		{"abcdef", 7, "xy", "abcdef\x00xy"},
		{"abcdef", 9, "xy", "abcdef\x00\x00\x00xy"},
		{"", 3, "x", "\x00\x00\x00x"},
		{"abcdef", 0, "uvwxyz", "uvwxyz"},
		{"abcdef", 0, "tuvwxyz", "tuvwxyz"},
		{"abcdef", 0, "\x00\x00", "\x00\x00cdef"},
		{"abcdef", 0, "", "abcdef"},
		{"abcdef", 3, "", "abcdef"},
		{"abcdef", 6, "", "abcdef"},
		{"abcdef", 7, "", "abcdef"},
		{"abcdef", 1 << 28, "", "abcdef"},
		{"", 0, "", ""},
		{"", 9, "", ""},
	} {
		x, _ := ofBytes(t, c.own)
		must(t, x.Write("/f", c.at, []byte(c.b)), api.OK)
		mustRead(t, x, "/f", c.want)
	}
}

// TestWriteAtEveryPlace of files of few bytes, some and no bytes.
func TestWriteAtEveryPlace(t *testing.T) {
	for size := range 20 {
		for at := range 40 {
			for count := range 22 {
				x, p := ofBytes(t, letters(size))
				mustAnswer(t, x, p, deed{call: "Write", path: "/f", at: at, data: []byte(strings.ToUpper(letters(count)))})
				mustRead(t, x, "/f", string(p["/f"].data))
			}
		}
	}
}

// TestWriteOfNoBytes: nothing happens, whatever they are.
func TestWriteOfNoBytes(t *testing.T) {
	for _, b := range [][]byte{nil, {}, make([]byte, 0, 9), []byte("abc")[:0]} {
		x := sample(t)
		for _, at := range []int{0, 1, 2, 3, 4, 100, 1<<28 - 1, 1 << 28} {
			for _, p := range []string{"/a", "/z", "/d/e/f"} {
				must(t, x.Write(p, at, b), api.OK)
			}
		}
		mustBe(t, x, plainSample())
		for _, at := range []int{-1, math.MinInt, 1<<28 + 1, 1 << 32, math.MaxInt} {
			must(t, x.Write("/a", at, b), api.ErrRange)
		}
		mustBe(t, x, plainSample())
	}
}

// TestWriteOutOfRange: below 0, above MaxSize, and where at and the bytes together are no int.
func TestWriteOutOfRange(t *testing.T) {
	for count := range 5 {
		b := []byte("xxxxx")[:count]
		for _, at := range []int{-1, -2, -count - 1, -1 << 28, -1 << 32, math.MinInt32, math.MinInt, math.MinInt + 1, math.MinInt + count} {
			mustFail(t, deed{call: "Write", path: "/a", at: at, data: b}, api.ErrRange)
		}
		for _, at := range []int{1<<28 - count + 1, 1<<28 + 1, 1 << 29, math.MaxInt32, math.MaxInt32 - 1, 1 << 32, 1<<32 + 1, math.MaxInt - count, math.MaxInt - 1, math.MaxInt} {
			mustFail(t, deed{call: "Write", path: "/a", at: at, data: b}, api.ErrRange)
			mustFail(t, deed{call: "Write", path: "/d/e/f", at: at, data: b}, api.ErrRange)
		}
	}
	for count := 2; count < 5; count++ {
		mustFail(t, deed{call: "Write", path: "/a", at: math.MaxInt - count + 2, data: make([]byte, count)}, api.ErrRange)
	}
}

// TestWriteUpToMaxSize: the last byte that may be, and the one behind it.
func TestWriteUpToMaxSize(t *testing.T) {
	x, _ := ofBytes(t, "abc")
	must(t, x.Write("/f", 1<<28-1, []byte("xy")), api.ErrRange)
	must(t, x.Write("/f", 1<<28, []byte("x")), api.ErrRange)
	mustRead(t, x, "/f", "abc")
	must(t, x.Write("/f", 1<<28-1, []byte("x")), api.OK)
	mustSize(t, x, "/f", 1<<28, false)
	must(t, x.Write("/f", 1<<28-3, []byte("vw")), api.OK)
	must(t, x.Write("/f", 1<<28-2, []byte("yyy")), api.ErrRange)
	must(t, x.Write("/f", 1<<28, []byte("y")), api.ErrRange)
	must(t, x.Write("/f", 1<<28, nil), api.OK)
	must(t, x.Write("/f", 1<<28+1, nil), api.ErrRange)
	mustSize(t, x, "/f", 1<<28, false)
	for _, c := range []struct {
		at, n int
		want  string
	}{{0, 5, "abc\x00\x00"}, {1<<28 - 5, 9, "\x00\x00vwx"}, {1<<28 - 1, 1, "x"}, {1<<28 - 1, math.MaxInt, "x"}, {1 << 28, 1, ""}, {1 << 27, 3, "\x00\x00\x00"}} {
		if b, e := x.Read("/f", c.at, c.n); e != api.OK || string(b) != c.want {
			t.Fatalf("%d, %d: %q, %d", c.at, c.n, b, e)
		}
	}
	must(t, x.Truncate("/f", 4), api.OK)
	mustRead(t, x, "/f", "abc\x00")
}

// TestWriteOfMaxSizeBytes: at 0 alone, and none more.
func TestWriteOfMaxSizeBytes(t *testing.T) {
	x, _ := ofBytes(t, "abc")
	b := make([]byte, 1<<28+1)
	b[1<<28-1] = 'x'
	must(t, x.Write("/f", 0, b), api.ErrRange)
	must(t, x.Write("/f", 1, b[:1<<28]), api.ErrRange)
	must(t, x.Write("/f", -1, b[:1<<28]), api.ErrRange)
	must(t, x.Write("/f", math.MaxInt, b[:1<<28]), api.ErrRange)
	mustRead(t, x, "/f", "abc")
	must(t, x.Write("/f", 0, b[:1<<28]), api.OK)
	mustSize(t, x, "/f", 1<<28, false)
	if b, e := x.Read("/f", 1<<28-2, 3); e != api.OK || string(b) != "\x00x" {
		t.Error(b, e)
	}
	if b, e := x.Read("/f", 0, 3); e != api.OK || string(b) != "\x00\x00\x00" {
		t.Error(b, e)
	}
}

// TestWriteByteByByte: a file that grows by one each time, forwards, and its bytes once more.
func TestWriteByteByByte(t *testing.T) {
	x, _ := ofBytes(t, "")
	want := letters(70000)
	for k := range len(want) {
		must(t, x.Write("/f", k, []byte(want[k:k+1])), api.OK)
	}
	mustRead(t, x, "/f", want)
	for k := len(want) - 1; k >= 0; k-- {
		must(t, x.Write("/f", k, []byte(strings.ToUpper(want[k:k+1]))), api.OK)
	}
	mustRead(t, x, "/f", strings.ToUpper(want))
	for size := len(want) - 1; size >= 0; size-- {
		must(t, x.Truncate("/f", size), api.OK)
	}
	mustRead(t, x, "/f", "")
}

// P13.2: Truncate

func TestTruncateByHand(t *testing.T) {
	x, _ := ofBytes(t, "abcdef")
	must(t, x.Truncate("/f", 6), api.OK)
	mustRead(t, x, "/f", "abcdef")
	must(t, x.Truncate("/f", 4), api.OK)
	mustRead(t, x, "/f", "abcd")
	must(t, x.Truncate("/f", 7), api.OK)
	mustRead(t, x, "/f", "abcd\x00\x00\x00")
	must(t, x.Truncate("/f", 0), api.OK)
	mustRead(t, x, "/f", "")
	must(t, x.Truncate("/f", 0), api.OK)
	mustRead(t, x, "/f", "")
	must(t, x.Truncate("/f", 2), api.OK)
	mustRead(t, x, "/f", "\x00\x00")
}

// TestWhatIsGoneIsNoughts: of every size, to every other one, and from there on longer again, by Truncate or by a Write behind the end.
func TestWhatIsGoneIsNoughts(t *testing.T) {
	for _, size := range []int{1, 2, 7, 8, 9, 16, 31, 32, 33, 48, 100} {
		for to := range size + 3 {
			for again := to; again < size+20; again++ {
				x, p := ofBytes(t, letters(size))
				mustAnswer(t, x, p, deed{call: "Truncate", path: "/f", at: to})
				mustRead(t, x, "/f", string(p["/f"].data))
				mustAnswer(t, x, p, deed{call: "Truncate", path: "/f", at: again})
				mustRead(t, x, "/f", string(p["/f"].data))
				x, p = ofBytes(t, letters(size))
				mustAnswer(t, x, p, deed{call: "Truncate", path: "/f", at: to})
				mustAnswer(t, x, p, deed{call: "Write", path: "/f", at: again, data: []byte("Z")})
				mustRead(t, x, "/f", string(p["/f"].data))
			}
		}
	}
}

func TestTruncateOutOfRange(t *testing.T) {
	for _, size := range []int{-1, -2, -1 << 28, -1 << 32, math.MinInt32, math.MinInt, math.MinInt + 1, 1<<28 + 1, 1<<28 + 2, 1 << 29, math.MaxInt32, 1 << 32, 1<<32 + 1, math.MaxInt - 1, math.MaxInt} {
		for _, p := range []string{"/a", "/z", "/d/e/f"} {
			mustFail(t, deed{call: "Truncate", path: p, at: size}, api.ErrRange)
		}
	}
}

func TestTruncateToMaxSize(t *testing.T) {
	x, _ := ofBytes(t, "abc")
	must(t, x.Truncate("/f", 1<<28+1), api.ErrRange)
	mustRead(t, x, "/f", "abc")
	must(t, x.Truncate("/f", 1<<28), api.OK)
	mustSize(t, x, "/f", 1<<28, false)
	for _, c := range []struct {
		at   int
		want string
	}{{0, "abc\x00\x00\x00"}, {1<<28 - 6, strings.Repeat("\x00", 6)}, {1<<28 - 2, "\x00\x00"}, {1 << 28, ""}} {
		if b, e := x.Read("/f", c.at, 6); e != api.OK || string(b) != c.want {
			t.Fatalf("%d: %q, %d", c.at, b, e)
		}
	}
	must(t, x.Truncate("/f", 1<<28+1), api.ErrRange)
	must(t, x.Truncate("/f", 1<<28), api.OK)
	must(t, x.Truncate("/f", 1<<28-1), api.OK)
	mustSize(t, x, "/f", 1<<28-1, false)
	must(t, x.Truncate("/f", 2), api.OK)
	mustRead(t, x, "/f", "ab")
}

// P13.2: Read

// TestReadOfEveryStretch: none, some, and more than there are, at the end and behind it.
func TestReadOfEveryStretch(t *testing.T) {
	for size := range 12 {
		own := letters(size)
		x, p := ofBytes(t, own)
		for _, at := range []int{0, 1, 2, 3, 5, 8, 10, 11, 12, 13, 100, 1 << 28, 1<<28 + 1, 1 << 32, math.MaxInt - 1, math.MaxInt} {
			for _, n := range []int{0, 1, 2, 3, 5, 8, 11, 12, 13, 100, 1 << 28, 1<<28 + 1, 1 << 32, math.MaxInt - 11, math.MaxInt - 1, math.MaxInt} {
				got := mustAnswer(t, x, p, deed{call: "Read", path: "/f", at: at, n: n})
				from := min(at, size)
				if want := own[from : from+min(n, size-from)]; string(got.data) != want {
					t.Fatalf("of %d, at %d, %d: %q, want %q", size, at, n, got.data, want)
				}
			}
		}
	}
}

func TestReadOutOfRange(t *testing.T) {
	below := []int{-1, -2, -3, -1 << 28, -1 << 32, math.MinInt32, math.MinInt + 1, math.MinInt}
	for _, low := range below {
		for _, other := range append([]int{0, 1, 3, 9, math.MaxInt}, below...) {
			for _, p := range []string{"/a", "/z"} {
				mustFail(t, deed{call: "Read", path: p, at: low, n: other}, api.ErrRange)
				mustFail(t, deed{call: "Read", path: p, at: other, n: low}, api.ErrRange)
			}
		}
	}
}

// P13.2: List

func TestListOfTheRootAndOfEmptyOnes(t *testing.T) {
	mustList(t, New(), "/")
	x := sample(t)
	mustList(t, x, "/", "a", "d", "empty", "z")
	mustList(t, x, "/d", "e", "g", "h")
	mustList(t, x, "/d/e", "f")
	mustList(t, x, "/d/h")
	mustList(t, x, "/empty")
}

// TestListRises: by bytes, whatever order the names were made in, and whatever they are of.
func TestListRises(t *testing.T) {
	want := []string{"\x01", " ", "!", "...", "0", "10", "2", "A", "B", "Z", "a", "a\x01", "a ", "a!", "a.", "aa", "ab", "b", "z", "\x7F", "\x80", "\x80\x01", "\xC0\xAF", "é", "日本", "\uFFFD", "\U00010000", "\xFE", "\xFF", "\xFF\xFF"}
	if !slices.IsSortedFunc(want, func(a, b string) int { return bytes.Compare([]byte(a), []byte(b)) }) {
		t.Fatal("not rising")
	}
	r := chance(7)
	for range 50 {
		names := slices.Clone(want)
		r.Shuffle(len(names), func(i, j int) { names[i], names[j] = names[j], names[i] })
		x := made(t, "/d/")
		for k, name := range names {
			d := deed{call: "Create", path: "/d/" + name}
			if k%3 == 0 {
				d.call = "Mkdir"
			}
			must(t, do(x, d).e, api.OK)
		}
		mustList(t, x, "/d", want...)
		mustList(t, x, "/", "d")
	}
}

// TestListOfEveryByte: each alone as a name, made from the highest one down.
func TestListOfEveryByte(t *testing.T) {
	x := New()
	var want []string
	for b := 255; b > 0; b-- {
		if b != '/' && b != '.' {
			name := string([]byte{byte(b)})
			must(t, x.Create("/"+name), api.OK)
			want = append(want, name)
		}
	}
	slices.Reverse(want)
	mustList(t, x, "/", want...)
}

// TestListTellsTwiceTheSame: of many names, which a map would tell in any order.
func TestListTellsTwiceTheSame(t *testing.T) {
	x := New()
	for k := range 100 {
		must(t, x.Create("/"+strconv.Itoa(k*7919%100)), api.OK)
	}
	first, _ := x.List("/")
	for range 20 {
		mustList(t, x, "/", first...)
	}
}

// P13.2: Size

func TestSize(t *testing.T) {
	x := sample(t)
	mustSize(t, x, "/", 4, true)
	mustSize(t, x, "/d", 3, true)
	mustSize(t, x, "/d/e", 1, true)
	mustSize(t, x, "/d/h", 0, true)
	mustSize(t, x, "/empty", 0, true)
	mustSize(t, x, "/a", 3, false)
	mustSize(t, x, "/d/e/f", 5, false)
	mustSize(t, x, "/z", 0, false)
	must(t, x.Write("/z", 99, []byte("x")), api.OK)
	mustSize(t, x, "/z", 100, false)
	must(t, x.Create("/d/h/i"), api.OK)
	mustSize(t, x, "/d/h", 1, true)
	mustSize(t, x, "/d", 3, true)
	mustSize(t, x, "/", 4, true)
	must(t, x.Unlink("/a"), api.OK)
	mustSize(t, x, "/", 3, true)
}

// P13.4: memory

// spoil changes bytes, and the room behind them.
func spoil(b []byte) {
	b = b[:cap(b)]
	for k := range b {
		b[k] = '#'
	}
}

// spoilNames changes names, and the room behind them.
func spoilNames(l []string) {
	l = l[:cap(l)]
	for k := range l {
		l[k] = "spoiled"
	}
}

// spoilItems changes items, and the room behind them, and behind their bytes.
func spoilItems(l []Item) {
	l = l[:cap(l)]
	for k := range l {
		spoil(l[k].Data)
		l[k] = Item{Path: "spoiled", Dir: !l[k].Dir, Data: []byte("spoiled")}
	}
}

// TestWriteKeepsAndChangesNoBytes: they are changed behind it, and the tree stays; the tree is changed, and they stay, with the room behind them.
func TestWriteKeepsAndChangesNoBytes(t *testing.T) {
	for _, own := range []int{0, 1, 3, 8, 20, 100} {
		for _, at := range []int{0, 1, 8, 30} {
			for _, count := range []int{0, 1, 2, 8, 9, 64, 200} {
				x, p := ofBytes(t, letters(own))
				whole := []byte(strings.ToUpper(letters(count)) + "spare room")
				before := slices.Clone(whole)
				mustAnswer(t, x, p, deed{call: "Write", path: "/f", at: at, data: whole[:count]})
				for _, d := range []deed{{call: "Write", path: "/f", at: at + count, data: []byte("behind")}, {call: "Write", path: "/f", at: at, data: []byte("on it")}, {call: "Truncate", path: "/f", at: at}, {call: "Truncate", path: "/f", at: 300}} {
					mustAnswer(t, x, p, d)
				}
				if !bytes.Equal(whole, before) {
					t.Fatalf("%q: changed to %q", before, whole)
				}
				x, p = ofBytes(t, letters(own))
				mustAnswer(t, x, p, deed{call: "Write", path: "/f", at: at, data: whole[:count]})
				spoil(whole)
				mustRead(t, x, "/f", string(p["/f"].data))
			}
		}
	}
}

// TestOfKeepsAndChangesNoItems: nor their bytes, nor the room behind both.
func TestOfKeepsAndChangesNoItems(t *testing.T) {
	items := func() []Item {
		l := []Item{{"/a", false, []byte("abcspare")[:3]}, {"/d", true, nil}, {"/d/e", true, []byte("spare")[:0]}, {"/d/f", false, []byte("spare")[:0]}, {"/d/g", false, bytes.Repeat([]byte("long"), 99)}, {"/spare", false, []byte("spare")}}
		return l[:5]
	}
	l := items()
	x, e := Of(l...)
	must(t, e, api.OK)
	want := x.All()
	for _, own := range []string{"/a", "/d/f", "/d/g"} {
		must(t, x.Write(own, 1, []byte("changed, and longer than it was")), api.OK)
		must(t, x.Truncate(own, 2), api.OK)
		must(t, x.Truncate(own, 9), api.OK)
	}
	must(t, x.Unlink("/a"), api.OK)
	for k, was := range items()[:6] {
		whole, wasWhole := l[:6][k].Data, was.Data
		if !sameItem(l[:6][k], was) || !bytes.Equal(whole[:cap(whole)], wasWhole[:cap(wasWhole)]) {
			t.Fatalf("%d: changed to %+v", k, l[:6][k])
		}
	}
	x, e = Of(l...)
	must(t, e, api.OK)
	spoilItems(l)
	mustHave(t, x, want...)
}

// TestOfChangesNoItemsOfAnError: as little as it does else.
func TestOfChangesNoItemsOfAnError(t *testing.T) {
	l := []Item{{"/a", false, []byte("abc")}, {"/d", true, []byte("x")}, {"/a", true, nil}}
	before := slices.Clone(l)
	mustNotBeOf(t, api.ErrRange, l...)
	if !slices.EqualFunc(l, before, sameItem) {
		t.Errorf("changed to %+v", l)
	}
}

// TestReadsAnswersAreNewMemory: whatever stretch they are of.
func TestReadsAnswersAreNewMemory(t *testing.T) {
	for _, size := range []int{0, 1, 3, 8, 50, 1000} {
		own := letters(size)
		for _, at := range []int{0, 1, 2, size / 2, size - 1, size, size + 1} {
			for _, n := range []int{0, 1, 2, size / 2, size - 1, size, size + 1, math.MaxInt} {
				if at < 0 || n < 0 {
					continue
				}
				x, _ := ofBytes(t, own)
				first, _ := x.Read("/f", at, n)
				second, _ := x.Read("/f", at, n)
				want := string(second)
				spoil(first)
				mustRead(t, x, "/f", own)
				if string(second) != want {
					t.Fatalf("two answers share memory: %q, want %q", second, want)
				}
				// What the tree is told later isn't seen in it.
				must(t, x.Write("/f", 0, []byte(strings.ToUpper(own)+"more")), api.OK)
				must(t, x.Truncate("/f", 1), api.OK)
				if string(second) != want {
					t.Fatalf("changed by the tree: %q, want %q", second, want)
				}
			}
		}
	}
}

func TestListsAnswersAreNewMemory(t *testing.T) {
	x, p := sample(t), plainSample()
	for _, text := range []string{"/", "/d", "/d/e", "/empty"} {
		first, _ := x.List(text)
		second, _ := x.List(text)
		spoilNames(first)
		if want := p.names(text); !slices.Equal(second, want) {
			t.Fatalf("two answers share memory: %q, want %q", second, want)
		}
	}
	mustBe(t, x, p)
	l, _ := x.List("/")
	must(t, x.Unlink("/a"), api.OK)
	must(t, x.Create("/b"), api.OK)
	if !slices.Equal(l, []string{"a", "d", "empty", "z"}) {
		t.Errorf("changed by the tree: %q", l)
	}
}

func TestAllsAnswersAreNewMemory(t *testing.T) {
	x, p := sample(t), plainSample()
	must(t, mustAnswer(t, x, p, deed{call: "Truncate", path: "/a", at: 2}).e, api.OK)
	first, second, third := x.All(), x.All(), x.All()
	want := p.items()
	spoilItems(first)
	mustBe(t, x, p)
	for _, d := range changes() {
		mustAnswer(t, x, p, d)
	}
	for _, got := range [][]Item{second, third} {
		if !slices.EqualFunc(got, want, sameItem) {
			t.Fatalf("changed: %+v, want %+v", got, want)
		}
	}
	// No two lists of one answer share any, nor does one grow into another one.
	for k := range second {
		spoil(second[k].Data)
		second[k].Data = append(second[k].Data, "grown"...)
		for other := range second {
			if other > k && !sameItem(second[other], want[other]) {
				t.Fatalf("%d by %d: changed to %+v", other, k, second[other])
			}
		}
	}
	mustBe(t, x, p)
}

// TestAskingChangesNothing: of a tree by chance, each call that only tells, twice.
func TestAskingChangesNothing(t *testing.T) {
	r := rand.New(rand.NewPCG(8, 13))
	for deeds := range 60 {
		x, p := someTree(r, deeds)
		for range 2 {
			for text := range p {
				for _, call := range []string{"Read", "List", "Size"} {
					mustAnswer(t, x, p, deed{call: call, path: text, at: 1, n: 3})
				}
			}
			x.All()
			x.Count()
			x.Copy()
			x.Same(New())
			mustBe(t, x, p)
		}
	}
}
