package tree

import (
	"math"
	"slices"
	"strconv"
	"strings"
	"testing"

	"cantle/api"
)

// must fails, unless a call told just this.
func must(t *testing.T, got, want api.Errno) {
	t.Helper()
	if got != want {
		t.Fatalf("%d, want %d", got, want)
	}
}

// made is a tree of these, one behind the other: a text with a / at its end makes a directory, another one a file, with what stands behind a = as its bytes.
func made(t *testing.T, texts ...string) *Tree {
	t.Helper()
	x := New()
	for _, text := range texts {
		p, data, _ := strings.Cut(text, "=")
		dir, isDir := strings.CutSuffix(p, "/")
		if isDir {
			must(t, x.Mkdir(dir), api.OK)
			continue
		}
		must(t, x.Create(p), api.OK)
		must(t, x.Write(p, 0, []byte(data)), api.OK)
	}
	return x
}

// sampleTexts are a tree's with files and directories in each other, empty ones among them.
func sampleTexts() []string {
	return []string{"/a=abc", "/d/", "/d/e/", "/d/e/f=hello", "/d/g=", "/d/h/", "/empty/", "/z="}
}

func sample(t *testing.T) *Tree {
	t.Helper()
	return made(t, sampleTexts()...)
}

// plainSample is what the sample is.
func plainSample() plain {
	return plain{
		"/": {dir: true}, "/a": {data: []byte("abc")}, "/d": {dir: true}, "/d/e": {dir: true}, "/d/e/f": {data: []byte("hello")},
		"/d/g": {}, "/d/h": {dir: true}, "/empty": {dir: true}, "/z": {},
	}
}

func mustList(t *testing.T, x *Tree, p string, want ...string) {
	t.Helper()
	if got, e := x.List(p); e != api.OK || !slices.Equal(got, want) {
		t.Fatalf("List of %s: %q, %d, want %q", short(p), got, e, want)
	}
}

func mustSize(t *testing.T, x *Tree, p string, want int, wantDir bool) {
	t.Helper()
	if got, dir, e := x.Size(p); e != api.OK || got != want || dir != wantDir {
		t.Fatalf("Size of %s: %d, %t, %d, want %d, %t", short(p), got, dir, e, want, wantDir)
	}
}

// mustRead fails, unless a file has just these bytes.
func mustRead(t *testing.T, x *Tree, p, want string) {
	t.Helper()
	if got, e := x.Read(p, 0, len(want)+9); e != api.OK || string(got) != want {
		t.Fatalf("Read of %s: %s, %d, want %s", short(p), short(string(got)), e, short(want))
	}
	mustSize(t, x, p, len(want), false)
}

// mustBeSame fails, unless two have the same things, both ways round.
func mustBeSame(t *testing.T, x, y *Tree) {
	t.Helper()
	if !x.Same(y) || !y.Same(x) {
		t.Fatalf("Same: %t, the other way round %t", x.Same(y), y.Same(x))
	}
}

// mustBeUnlike fails, if two have the same things, either way round.
func mustBeUnlike(t *testing.T, x, y *Tree) {
	t.Helper()
	if x.Same(y) || y.Same(x) {
		t.Fatalf("Same: %t, the other way round %t", x.Same(y), y.Same(x))
	}
}

// mustFail fails, unless a call of a sample tells this error, with zeros beside it, and nothing has changed behind it.
func mustFail(t *testing.T, d deed, want api.Errno) {
	t.Helper()
	x := sample(t)
	if got := do(x, d); !got.equals(answer{e: want}) {
		t.Fatalf("%s: %+v, want %d", d, got, want)
	}
	mustBe(t, x, plainSample())
	mustBeSame(t, x, sample(t))
}

// The examples

func TestExample(t *testing.T) {
	x := New()
	must(t, x.Mkdir("/a"), api.OK)
	must(t, x.Create("/a/b"), api.OK)
	must(t, x.Write("/a/b", 2, []byte("x")), api.OK)
	if b, e := x.Read("/a/b", 0, 9); e != api.OK || string(b) != "\x00\x00x" {
		t.Error(b, e)
	}
	must(t, x.Rmdir("/a"), api.ErrNotEmpty)
}

// P13.1: New

func TestNew(t *testing.T) {
	x := New()
	mustBe(t, x, plainNew())
	mustHave(t, x)
	mustList(t, x, "/")
	mustSize(t, x, "/", 0, true)
	if x.Count() != 1 {
		t.Error(x.Count())
	}
}

func TestTwoNewOnesAreApart(t *testing.T) {
	x, y := New(), New()
	must(t, x.Create("/a"), api.OK)
	mustBe(t, y, plainNew())
	must(t, y.Mkdir("/a"), api.OK)
	mustSize(t, x, "/a", 0, false)
}

// P13.1: where a path goes to

// errorsOf is what each call of the sample tells of a path, in the order of calls.
type errorsOf struct {
	path string
	want [9]api.Errno
}

// each is one error for all calls.
func each(e api.Errno) (l [9]api.Errno) {
	for k := range l {
		l[k] = e
	}
	return l
}

// missing is what calls tell of a name that isn't there, in a directory that is.
func missing() [9]api.Errno {
	l := each(api.ErrMissing)
	l[0], l[1] = api.OK, api.OK
	return l
}

// pathsOfNone are no paths, some of them near to what the sample has.
func pathsOfNone() []string {
	return []string{
		"", "a", "//", "/a/", "/d/", "d/e", "//d", "/d//e", "/d/e/", "/d/e//f", "/.", "/..", "/d/.", "/d/..", "/d/../a", "/d/./e",
		// What would be missing, and what would be beyond a file, if it were a path.
		"/none/", "/none//b", "/none/.", "/none/..", "/a/b/", "/a//b", "/a/..", "/a/b/..", "/a/./b", "/none/a\x00", "/a/a\x00",
		"/\x00", "/d\x00", "\x00", "/d/\x00", "/" + strings.Repeat("z", 49), "/d/" + strings.Repeat("z", 49), "/a/" + strings.Repeat("z", 49),
		strings.Repeat("/d", 65), strings.Repeat("/a", 65), "/" + strings.Repeat("/z", 3), "d/", " /d", "/d/e/f/",
	}
}

// pathErrors are the sample's paths of all kinds.
func pathErrors() []errorsOf {
	ok, exists, isDir, notDir := api.OK, api.ErrExists, api.ErrIsDir, api.ErrNotDir
	file := [9]api.Errno{exists, exists, ok, ok, ok, notDir, ok, notDir, ok}
	empty := [9]api.Errno{exists, exists, isDir, isDir, isDir, ok, isDir, ok, ok}
	full := [9]api.Errno{exists, exists, isDir, isDir, isDir, api.ErrNotEmpty, isDir, ok, ok}
	l := []errorsOf{
		{"/", [9]api.Errno{exists, exists, isDir, isDir, isDir, api.ErrArg, isDir, ok, ok}},
		{"/a", file}, {"/z", file}, {"/d/e/f", file}, {"/d/g", file},
		{"/empty", empty}, {"/d/h", empty}, {"/d", full}, {"/d/e", full},
		// A name that isn't there: the last one.
		{"/none", missing()}, {"/d/none", missing()}, {"/d/e/none", missing()}, {"/empty/none", missing()}, {"/A", missing()}, {"/a ", missing()}, {"/aa", missing()}, {"/D", missing()}, {"/" + strings.Repeat("z", 48), missing()}, {"/...", missing()}, {"/e", missing()}, {"/f", missing()}, {"/d/a", missing()}, {"/d/d", missing()},
		// The first one, and one in a middle.
		{"/none/e", each(api.ErrMissing)}, {"/none/e/f", each(api.ErrMissing)}, {"/d/none/f", each(api.ErrMissing)}, {"/d/none/e/f", each(api.ErrMissing)}, {"/d/e/none/f", each(api.ErrMissing)}, {"/e/f", each(api.ErrMissing)}, {"/empty/d/e", each(api.ErrMissing)}, {"/none" + strings.Repeat("/a", 63), each(api.ErrMissing)},
		// A file as the parent, and one in the midst.
		{"/a/b", each(notDir)}, {"/a/a", each(notDir)}, {"/z/none", each(notDir)}, {"/d/g/f", each(notDir)}, {"/d/e/f/g", each(notDir)}, {"/a/b/c", each(notDir)}, {"/d/g/x/y/z", each(notDir)}, {"/d/e/f/f/f", each(notDir)}, {"/a" + strings.Repeat("/a", 63), each(notDir)},
	}
	for _, p := range pathsOfNone() {
		l = append(l, errorsOf{p, each(api.ErrName)})
	}
	return l
}

// TestEachCallOfEachPath: beside an error nothing changes.
func TestEachCallOfEachPath(t *testing.T) {
	for _, c := range pathErrors() {
		for k, call := range calls() {
			d := deed{call: call, path: c.path, n: 9}
			if c.want[k] != api.OK {
				mustFail(t, d, c.want[k])
			} else if a := do(sample(t), d); a.e != api.OK {
				t.Fatalf("%s: %d", d, a.e)
			}
			mustAnswer(t, sample(t), plainSample(), d)
		}
	}
}

// TestAWrongPathIsToldAheadOfAWrongNumber: only what goes to a file asks for its numbers.
func TestAWrongPathIsToldAheadOfAWrongNumber(t *testing.T) {
	for _, c := range pathErrors() {
		for k, call := range calls() {
			for _, at := range []int{-1, math.MinInt, 1<<28 + 1, math.MaxInt} {
				for _, n := range []int{-1, math.MinInt} {
					d := deed{call: call, path: c.path, at: at, n: n, data: []byte("x")}
					switch {
					case c.want[k] != api.OK:
						mustFail(t, d, c.want[k])
					case call == "Write" || call == "Truncate" || call == "Read":
						mustFail(t, d, api.ErrRange)
					}
				}
			}
		}
	}
}

// TestPathsOfNoneOfARootAlone: nothing has to be there for a path to be none.
func TestPathsOfNoneOfARootAlone(t *testing.T) {
	for _, text := range pathsOfNone() {
		for _, call := range calls() {
			x := New()
			if got := do(x, deed{call: call, path: text}); !got.equals(answer{e: api.ErrName}) {
				t.Fatalf("%s of %s: %+v", call, short(text), got)
			}
			mustBe(t, x, plainNew())
		}
	}
}

// P13.1: Create, Mkdir

func TestCreate(t *testing.T) {
	x := New()
	must(t, x.Create("/a"), api.OK)
	mustBe(t, x, plain{"/": {dir: true}, "/a": {}})
	must(t, x.Create("/b"), api.OK)
	mustBe(t, x, plain{"/": {dir: true}, "/a": {}, "/b": {}})
}

func TestMkdir(t *testing.T) {
	x := New()
	must(t, x.Mkdir("/a"), api.OK)
	mustBe(t, x, plain{"/": {dir: true}, "/a": {dir: true}})
	must(t, x.Mkdir("/a/a"), api.OK)
	must(t, x.Create("/a/a/a"), api.OK)
	mustBe(t, x, plain{"/": {dir: true}, "/a": {dir: true}, "/a/a": {dir: true}, "/a/a/a": {}})
}

// TestANameThatIsThere: as a file, or as a directory, full or empty; it stays as it was.
func TestANameThatIsThere(t *testing.T) {
	for _, p := range []string{"/a", "/z", "/d", "/d/e", "/d/e/f", "/d/g", "/d/h", "/empty", "/"} {
		for _, call := range []string{"Create", "Mkdir"} {
			mustFail(t, deed{call: call, path: p}, api.ErrExists)
		}
	}
}

// TestOneNameInManyDirectories: each is a thing of its own.
func TestOneNameInManyDirectories(t *testing.T) {
	x := made(t, "/n=root", "/a/", "/a/n=first", "/b/", "/b/n/", "/b/n/n=deep")
	mustRead(t, x, "/n", "root")
	mustRead(t, x, "/a/n", "first")
	mustRead(t, x, "/b/n/n", "deep")
	must(t, x.Unlink("/a/n"), api.OK)
	mustRead(t, x, "/n", "root")
	mustRead(t, x, "/b/n/n", "deep")
	must(t, x.Unlink("/b/n/n"), api.OK)
	must(t, x.Rmdir("/b/n"), api.OK)
	mustRead(t, x, "/n", "root")
	mustList(t, x, "/", "a", "b", "n")
	mustList(t, x, "/a")
	mustList(t, x, "/b")
}

func TestNamesOfAllKinds(t *testing.T) {
	x, p := New(), plainNew()
	names := []string{"...", "....", ".a", "a.", " ", "  ", "\t", "\n", "\\", "\x01", "\x7F", "é", "日本", "\x80", "\xFF", "\xFF\xFE", "\xC0\xAF", strings.Repeat("z", 47), strings.Repeat("z", 48), strings.Repeat(".", 48), strings.Repeat("\xFF", 48), "é\xCC\x81", "e\xCC\x81"}
	for b := 1; b < 256; b++ {
		if b != '/' && b != '.' {
			names = append(names, string([]byte{'x', byte(b)}))
		}
	}
	for k, name := range names {
		mustAnswer(t, x, p, deed{call: []string{"Create", "Mkdir"}[k%2], path: "/" + name})
	}
	mustBe(t, x, p)
	if len(p) != 1+len(names) {
		t.Error(len(p))
	}
}

// deep are so many names.
func deep(count int) []string {
	l := make([]string, count)
	for k := range l {
		l[k] = "n" + strconv.Itoa(k)
	}
	return l
}

// TestAsDeepAsMayBe: of 64 names there are things, of 65 there is no path.
func TestAsDeepAsMayBe(t *testing.T) {
	x, p := New(), plainNew()
	for count := 1; count <= 63; count++ {
		mustAnswer(t, x, p, deed{call: "Mkdir", path: pathOf(deep(count)...)})
	}
	dir, file := pathOf(deep(64)...), pathOf(deep(63)...)+"/file"
	must(t, mustAnswer(t, x, p, deed{call: "Mkdir", path: dir}).e, api.OK)
	must(t, mustAnswer(t, x, p, deed{call: "Create", path: file}).e, api.OK)
	must(t, mustAnswer(t, x, p, deed{call: "Write", path: file, data: []byte("deep")}).e, api.OK)
	mustBe(t, x, p)
	if x.Count() != 66 {
		t.Error(x.Count())
	}
	for _, call := range calls() {
		for _, up := range []string{dir, file} {
			must(t, mustAnswer(t, x, p, deed{call: call, path: up + "/a"}).e, api.ErrName)
		}
	}
	mustBe(t, x, p)
	y, e := Of(x.All()...)
	must(t, e, api.OK)
	mustBeSame(t, x, y)
	mustBeSame(t, x, x.Copy())
	mustBe(t, x.Copy(), p)
	must(t, x.Unlink(file), api.OK)
	for count := 64; count > 0; count-- {
		must(t, x.Rmdir(pathOf(deep(count)...)), api.OK)
	}
	mustBe(t, x, plainNew())
}

// TestTheLongestPath: 64 names of 48 bytes each.
func TestTheLongestPath(t *testing.T) {
	x := New()
	name := "/" + strings.Repeat("z", 48)
	for count := 1; count < 64; count++ {
		must(t, x.Mkdir(strings.Repeat(name, count)), api.OK)
	}
	longest := strings.Repeat(name, 64)
	must(t, x.Create(longest), api.OK)
	must(t, x.Write(longest, 0, []byte("x")), api.OK)
	mustRead(t, x, longest, "x")
	l := x.All()
	if len(l) != 64 || !sameItem(l[63], Item{Path: longest, Data: []byte("x")}) {
		t.Error(len(l))
	}
}

// P13.1: Unlink, Rmdir

func TestUnlink(t *testing.T) {
	x, p := sample(t), plainSample()
	for _, text := range []string{"/d/e/f", "/a", "/d/g", "/z"} {
		must(t, x.Unlink(text), api.OK)
		delete(p, text)
		mustBe(t, x, p)
		must(t, x.Unlink(text), api.ErrMissing)
	}
}

func TestUnlinkOfADirectory(t *testing.T) {
	for _, p := range []string{"/", "/d", "/d/e", "/d/h", "/empty"} {
		mustFail(t, deed{call: "Unlink", path: p}, api.ErrIsDir)
	}
	must(t, New().Unlink("/"), api.ErrIsDir)
}

func TestRmdir(t *testing.T) {
	x, p := sample(t), plainSample()
	for _, text := range []string{"/empty", "/d/h"} {
		must(t, x.Rmdir(text), api.OK)
		delete(p, text)
		mustBe(t, x, p)
		must(t, x.Rmdir(text), api.ErrMissing)
	}
}

func TestRmdirOfAFile(t *testing.T) {
	for _, p := range []string{"/a", "/z", "/d/g", "/d/e/f"} {
		mustFail(t, deed{call: "Rmdir", path: p}, api.ErrNotDir)
	}
}

// TestRmdirOfTheRoot: with names or without any.
func TestRmdirOfTheRoot(t *testing.T) {
	mustFail(t, deed{call: "Rmdir", path: "/"}, api.ErrArg)
	x := New()
	must(t, x.Rmdir("/"), api.ErrArg)
	mustBe(t, x, plainNew())
}

// TestRmdirOnceItHasNoName: a file's, an empty directory's, or more than one.
func TestRmdirOnceItHasNoName(t *testing.T) {
	x := made(t, "/d/", "/d/f=x", "/d/e/", "/d/e/g=")
	must(t, x.Rmdir("/d"), api.ErrNotEmpty)
	must(t, x.Rmdir("/d/e"), api.ErrNotEmpty)
	must(t, x.Unlink("/d/e/g"), api.OK)
	must(t, x.Rmdir("/d"), api.ErrNotEmpty)
	must(t, x.Rmdir("/d/e"), api.OK)
	must(t, x.Rmdir("/d"), api.ErrNotEmpty)
	must(t, x.Unlink("/d/f"), api.OK)
	must(t, x.Rmdir("/d"), api.OK)
	mustBe(t, x, plainNew())
}

// TestWhatIsMadeAgainIsEmpty: nothing is left of what stood there.
func TestWhatIsMadeAgainIsEmpty(t *testing.T) {
	x := made(t, "/a=bytes", "/d/", "/d/f=x")
	must(t, x.Unlink("/a"), api.OK)
	must(t, x.Create("/a"), api.OK)
	mustRead(t, x, "/a", "")
	must(t, x.Unlink("/a"), api.OK)
	must(t, x.Mkdir("/a"), api.OK)
	mustSize(t, x, "/a", 0, true)
	must(t, x.Unlink("/d/f"), api.OK)
	must(t, x.Rmdir("/d"), api.OK)
	must(t, x.Create("/d"), api.OK)
	mustBe(t, x, plain{"/": {dir: true}, "/a": {dir: true}, "/d": {}})
}

// P13.3: All

func TestAllByHand(t *testing.T) {
	mustHave(t, New())
	mustHave(t, sample(t),
		Item{"/a", false, []byte("abc")}, Item{"/d", true, nil}, Item{"/d/e", true, nil}, Item{"/d/e/f", false, []byte("hello")},
		Item{"/d/g", false, nil}, Item{"/d/h", true, nil}, Item{"/empty", true, nil}, Item{"/z", false, nil})
}

// orderTexts have names of which one begins another one, go on with bytes below that of a /, or aren't of texts: by their paths' texts they would stand in another order.
func orderTexts() []string {
	return []string{
		"/B=", "/a/", "/a/a/", "/a/a/z=", "/a/b=", "/a/\x80=", "/a/\xFF/", "/a/\xFF/a=", "/a!/", "/a!/a=", "/a.b=", "/a\x01b=", "/aa/", "/aa/a=", "/aaa=", "/b=",
		"/b /", "/b /c=", "/z=", "/\x7F=", "/\x80=", "/\xC3=", "/é/", "/é/é=", "/\uFFFD=", "/\U00010000=", "/\xFF=", "/\xFF\x01=",
	}
}

// TestAllIsInTheOrderOfBefore: whatever order things were made in.
func TestAllIsInTheOrderOfBefore(t *testing.T) {
	r := chance(2)
	want := orderTexts()
	slices.SortFunc(want, func(a, b string) int {
		if aheadOf(strings.TrimRight(a, "/="), strings.TrimRight(b, "/=")) {
			return -1
		}
		return 1
	})
	for range 50 {
		texts := slices.Clone(want)
		r.Shuffle(len(texts), func(i, j int) { texts[i], texts[j] = texts[j], texts[i] })
		// Each behind the directory that it is in.
		slices.SortStableFunc(texts, func(a, b string) int {
			return strings.Count(strings.TrimSuffix(a, "/"), "/") - strings.Count(strings.TrimSuffix(b, "/"), "/")
		})
		l := made(t, texts...).All()
		for k, x := range l {
			if len(l) != len(want) || x.Path != strings.TrimRight(want[k], "/=") || x.Dir != strings.HasSuffix(want[k], "/") {
				t.Fatalf("%d: %+v, want %q", k, l, want)
			}
		}
	}
}

// P13.3: Of

func mustBeOf(t *testing.T, p plain, l ...Item) {
	t.Helper()
	x, e := Of(l...)
	if e != api.OK || x == nil {
		t.Fatalf("Of %+v: %d", l, e)
	}
	mustBe(t, x, p)
}

func mustNotBeOf(t *testing.T, want api.Errno, l ...Item) {
	t.Helper()
	if x, e := Of(l...); e != want || x != nil {
		t.Fatalf("Of %d items: %v, %d, want %d", len(l), x, e, want)
	}
}

func TestOfNoItems(t *testing.T) {
	mustBeOf(t, plainNew())
	mustBeOf(t, plainNew(), []Item{}...)
}

func TestOfWhatAllTold(t *testing.T) {
	r := chance(3)
	for deeds := range 200 {
		x, p := someTree(r, deeds)
		mustBeOf(t, p, x.All()...)
		y, e := Of(x.All()...)
		must(t, e, api.OK)
		mustBeSame(t, x, y)
	}
	mustBeOf(t, plainSample(), sample(t).All()...)
}

// TestOfAnotherOrder: any in which each stands behind the directory that it is in.
func TestOfAnotherOrder(t *testing.T) {
	r := chance(4)
	for deeds := range 200 {
		x, p := someTree(r, deeds)
		var l []Item
		rest := x.All()
		there := map[string]bool{"": true}
		for len(rest) > 0 {
			k := r.IntN(len(rest))
			if up := rest[k].Path[:strings.LastIndex(rest[k].Path, "/")]; !there[up] {
				continue
			}
			there[rest[k].Path] = true
			l = append(l, rest[k])
			rest = slices.Delete(rest, k, k+1)
		}
		mustBeOf(t, p, l...)
	}
}

// TestOfAnItemAheadOfItsDirectory: just then it isn't in any order that fits.
func TestOfAnItemAheadOfItsDirectory(t *testing.T) {
	f, d := Item{Path: "/d/f"}, Item{Path: "/d", Dir: true}
	mustBeOf(t, plain{"/": {dir: true}, "/d": {dir: true}, "/d/f": {}}, d, f)
	mustNotBeOf(t, api.ErrMissing, f, d)
	mustNotBeOf(t, api.ErrMissing, f)
	f.Dir = true
	mustNotBeOf(t, api.ErrMissing, f, d)
	all := sample(t).All()
	for k, x := range all {
		for other := range k {
			if strings.HasPrefix(x.Path, all[other].Path+"/") {
				l := slices.Clone(all)
				l[k], l[other] = l[other], l[k]
				mustNotBeOf(t, api.ErrMissing, l...)
			}
		}
	}
}

func TestOfOneItemTwice(t *testing.T) {
	all := sample(t).All()
	for k, x := range all {
		for to := k + 1; to <= len(all); to++ {
			mustNotBeOf(t, api.ErrExists, slices.Insert(slices.Clone(all), to, x)...)
			// As the other kind, too.
			other := Item{Path: x.Path, Dir: !x.Dir}
			mustNotBeOf(t, api.ErrExists, slices.Insert(slices.Clone(all), to, other)...)
		}
	}
}

func TestOfTheRoot(t *testing.T) {
	mustNotBeOf(t, api.ErrExists, Item{Path: "/", Dir: true})
	mustNotBeOf(t, api.ErrExists, Item{Path: "/"})
	mustNotBeOf(t, api.ErrExists, append(sample(t).All(), Item{Path: "/", Dir: true})...)
}

func TestOfWhatIsNoPath(t *testing.T) {
	for _, text := range pathsOfNone() {
		for _, dir := range []bool{true, false} {
			x := Item{Path: text, Dir: dir}
			mustNotBeOf(t, api.ErrName, x)
			mustNotBeOf(t, api.ErrName, append(sample(t).All(), x)...)
		}
	}
}

func TestOfAnItemInAFile(t *testing.T) {
	for _, dir := range []bool{true, false} {
		for _, text := range []string{"/a/b", "/a/b/c", "/d/e/f/g"} {
			mustNotBeOf(t, api.ErrNotDir, append(sample(t).All(), Item{Path: text, Dir: dir})...)
		}
	}
}

func TestOfADirectoryThatHasData(t *testing.T) {
	mustNotBeOf(t, api.ErrRange, Item{Path: "/d", Dir: true, Data: []byte("x")})
	mustNotBeOf(t, api.ErrRange, Item{Path: "/d", Dir: true, Data: []byte{0}})
	mustBeOf(t, plain{"/": {dir: true}, "/d": {dir: true}}, Item{Path: "/d", Dir: true, Data: []byte{}})
	mustBeOf(t, plain{"/": {dir: true}, "/d": {dir: true}}, Item{Path: "/d", Dir: true, Data: make([]byte, 0, 9)})
	mustBeOf(t, plain{"/": {dir: true}, "/d": {data: []byte("x")}}, Item{Path: "/d", Data: []byte("x")})
	all := sample(t).All()
	for k := range all {
		if all[k].Dir {
			l := slices.Clone(all)
			l[k].Data = []byte("x")
			mustNotBeOf(t, api.ErrRange, l...)
		}
	}
}

func TestOfMoreDataThanMayBe(t *testing.T) {
	data := make([]byte, 1<<28+1)
	mustNotBeOf(t, api.ErrRange, Item{Path: "/a", Data: data})
	mustNotBeOf(t, api.ErrRange, Item{Path: "/a", Dir: true, Data: data})
	mustNotBeOf(t, api.ErrRange, append(sample(t).All(), Item{Path: "/b", Data: data})...)
	// What is wrong with the path is told ahead of it.
	for _, dir := range []bool{true, false} {
		mustNotBeOf(t, api.ErrName, Item{Path: "b", Dir: dir, Data: data})
		mustNotBeOf(t, api.ErrExists, Item{Path: "/", Dir: dir, Data: data})
		mustNotBeOf(t, api.ErrMissing, Item{Path: "/b/c", Dir: dir, Data: data})
		mustNotBeOf(t, api.ErrNotDir, Item{Path: "/a"}, Item{Path: "/a/c", Dir: dir, Data: data})
		mustNotBeOf(t, api.ErrExists, Item{Path: "/a"}, Item{Path: "/a", Dir: dir, Data: data})
	}
	data[1<<28-1] = 'x'
	x, e := Of(Item{Path: "/a", Data: data[:1<<28]})
	must(t, e, api.OK)
	mustSize(t, x, "/a", 1<<28, false)
	if b, e := x.Read("/a", 1<<28-2, 9); e != api.OK || string(b) != "\x00x" {
		t.Error(b, e)
	}
}

// TestOfErrorsOfTwoItems: the first one's is told, whichever they are.
func TestOfErrorsOfTwoItems(t *testing.T) {
	wrong := []struct {
		item Item
		want api.Errno
	}{
		{Item{Path: "a/"}, api.ErrName}, {Item{Path: "/none/b", Dir: true}, api.ErrMissing}, {Item{Path: "/d", Dir: true}, api.ErrExists}, {Item{Path: "/a/b"}, api.ErrNotDir},
		{Item{Path: "/new", Dir: true, Data: []byte("x")}, api.ErrRange}, {Item{Path: "/", Dir: true}, api.ErrExists},
	}
	all := sample(t).All()
	for _, first := range wrong {
		for _, second := range wrong {
			l := append(slices.Clone(all), first.item, Item{Path: "/right"}, second.item)
			mustNotBeOf(t, first.want, l...)
		}
	}
	// Within one item: the path's ahead of the data's.
	mustNotBeOf(t, api.ErrName, Item{Path: "d", Dir: true, Data: []byte("x")})
	mustNotBeOf(t, api.ErrMissing, Item{Path: "/d/e", Dir: true, Data: []byte("x")})
	mustNotBeOf(t, api.ErrExists, Item{Path: "/d", Dir: true}, Item{Path: "/d", Dir: true, Data: []byte("x")})
	mustNotBeOf(t, api.ErrNotDir, Item{Path: "/f"}, Item{Path: "/f/d", Dir: true, Data: []byte("x")})
}

// P13.3: Count

func TestCount(t *testing.T) {
	x := New()
	for count, text := range []string{"/a", "/d", "/d/d", "/d/d/f", "/d/d/g", "/e"} {
		if x.Count() != count+1 {
			t.Fatal(x.Count(), count)
		}
		if strings.HasSuffix(text, "d") {
			must(t, x.Mkdir(text), api.OK)
		} else {
			must(t, x.Create(text), api.OK)
		}
	}
	must(t, x.Write("/a", 0, []byte("more bytes, not more things")), api.OK)
	if x.Count() != 7 {
		t.Error(x.Count())
	}
	must(t, x.Unlink("/d/d/f"), api.OK)
	if x.Count() != 6 {
		t.Error(x.Count())
	}
}

// TestManyThings: of one directory, and in many.
func TestManyThings(t *testing.T) {
	x := New()
	for k := range 20000 {
		must(t, x.Create("/f"+strconv.Itoa(k)), api.OK)
	}
	for k := range 2000 {
		must(t, x.Mkdir("/d"+strconv.Itoa(k)), api.OK)
		must(t, x.Create("/d"+strconv.Itoa(k)+"/f"), api.OK)
	}
	if x.Count() != 24001 || len(x.All()) != 24000 {
		t.Error(x.Count(), len(x.All()))
	}
	mustSize(t, x, "/", 22000, true)
	y, e := Of(x.All()...)
	must(t, e, api.OK)
	mustBeSame(t, x, y)
	must(t, y.Write("/d1999/f", 0, []byte("x")), api.OK)
	mustBeUnlike(t, x, y)
}

// P13.3: Copy

// changes are calls that change the sample, each in another way.
func changes() []deed {
	x := []byte("x")
	return []deed{
		{call: "Create", path: "/new"}, {call: "Create", path: "/d/new"}, {call: "Create", path: "/empty/new"}, {call: "Create", path: "/d/e/new"}, {call: "Mkdir", path: "/new"}, {call: "Mkdir", path: "/d/h/new"},
		{call: "Write", path: "/a", at: 0, data: x}, {call: "Write", path: "/a", at: 1, data: x}, {call: "Write", path: "/a", at: 3, data: x}, {call: "Write", path: "/a", at: 9, data: x}, {call: "Write", path: "/d/e/f", at: 4, data: x}, {call: "Write", path: "/z", at: 0, data: x}, {call: "Write", path: "/d/g", at: 5, data: x},
		{call: "Truncate", path: "/a", at: 0}, {call: "Truncate", path: "/a", at: 2}, {call: "Truncate", path: "/a", at: 4}, {call: "Truncate", path: "/d/e/f", at: 1}, {call: "Truncate", path: "/z", at: 1},
		{call: "Unlink", path: "/a"}, {call: "Unlink", path: "/z"}, {call: "Unlink", path: "/d/e/f"}, {call: "Unlink", path: "/d/g"}, {call: "Rmdir", path: "/empty"}, {call: "Rmdir", path: "/d/h"},
	}
}

// TestCopyIsApart: each of both goes on by itself.
func TestCopyIsApart(t *testing.T) {
	for _, d := range changes() {
		x, p := sample(t), plainSample()
		y, q := x.Copy(), plainSample()
		mustBeSame(t, x, y)
		must(t, mustAnswer(t, y, q, d).e, api.OK)
		mustBe(t, x, p)
		mustBe(t, y, q)
		mustBeUnlike(t, x, y)
		for _, other := range changes() {
			mustAnswer(t, x, p, other)
		}
		mustBe(t, x, p)
		mustBe(t, y, q)
	}
}

// TestCopiesOfFilesThatGrow: neither grows into room that the other one has behind its bytes.
func TestCopiesOfFilesThatGrow(t *testing.T) {
	for size := range 70 {
		x := made(t, "/a="+strings.Repeat("a", 70))
		must(t, x.Truncate("/a", size), api.OK)
		y := x.Copy()
		must(t, x.Write("/a", size, []byte("xx")), api.OK)
		must(t, y.Write("/a", size, []byte("y")), api.OK)
		mustRead(t, x, "/a", strings.Repeat("a", size)+"xx")
		mustRead(t, y, "/a", strings.Repeat("a", size)+"y")
		must(t, y.Truncate("/a", size+3), api.OK)
		mustRead(t, y, "/a", strings.Repeat("a", size)+"y\x00\x00")
		mustRead(t, x, "/a", strings.Repeat("a", size)+"xx")
	}
}

func TestCopyOfARootAlone(t *testing.T) {
	x := New()
	y := x.Copy()
	mustBe(t, y, plainNew())
	must(t, y.Create("/a"), api.OK)
	mustBe(t, x, plainNew())
	must(t, x.Mkdir("/b"), api.OK)
	mustBe(t, y, plain{"/": {dir: true}, "/a": {}})
}

func TestCopyOfManyTrees(t *testing.T) {
	r := chance(5)
	for deeds := range 100 {
		x, p := someTree(r, deeds)
		y := x.Copy()
		mustBe(t, y, p)
		mustBeSame(t, x, y)
		for range 50 {
			do(y, someDeed(r, p))
		}
		mustBe(t, x, p)
	}
}

// P13.3: Same

// TestSameByWhateverWayItCame: order, and what was there once, don't matter.
func TestSameByWhateverWayItCame(t *testing.T) {
	x := made(t, "/a=abc", "/d/", "/d/e/", "/d/f=x", "/d/g=")
	mustBeSame(t, x, x)
	mustBeSame(t, x, made(t, "/d/", "/d/g=", "/d/f=x", "/d/e/", "/a=abc"))
	y := made(t, "/d/", "/d/f=long", "/d/g=gone", "/d/e=", "/a=", "/more=", "/h/")
	must(t, y.Unlink("/more"), api.OK)
	must(t, y.Rmdir("/h"), api.OK)
	must(t, y.Unlink("/d/e"), api.OK)
	must(t, y.Mkdir("/d/e"), api.OK)
	must(t, y.Create("/d/e/once"), api.OK)
	must(t, y.Unlink("/d/e/once"), api.OK)
	must(t, y.Truncate("/d/f", 1), api.OK)
	must(t, y.Write("/d/f", 0, []byte("x")), api.OK)
	must(t, y.Truncate("/d/g", 0), api.OK)
	must(t, y.Write("/a", 1, []byte("bc")), api.OK)
	mustBeUnlike(t, x, y)
	must(t, y.Write("/a", 0, []byte("a")), api.OK)
	mustBeSame(t, x, y)
	mustHave(t, y, x.All()...)
}

// TestSameOfRootsAlone: of one that never had a name, and of one that has none any more.
func TestSameOfRootsAlone(t *testing.T) {
	x := made(t, "/a=x")
	mustBeUnlike(t, x, New())
	must(t, x.Unlink("/a"), api.OK)
	mustBeSame(t, x, New())
	mustBeSame(t, New(), New())
}

// TestSameOfUnlikeOnes: in a name, in bytes, in whether it is a directory, in one thing more, at the top and below.
func TestSameOfUnlikeOnes(t *testing.T) {
	for _, up := range [][]string{nil, {"/d/"}, {"/d/", "/d/e/"}} {
		own := ""
		if len(up) > 0 {
			own = strings.TrimSuffix(up[len(up)-1], "/")
		}
		var l []*Tree
		for _, below := range []string{"", "a=", "b=", "A=", "aa=", "a/", "b/", "a=x", "a=y", "a=xx", "a=\x00", "a=x\x00", "a=\x00x", "a=,b=", "a=x,b=", "a=,b=x", "a=,b/", "a/,b=", "a/,b/", "a/,a/a=", "a/,a/a/", "a/,a/b=", "a/,b/,b/a=", "a/,a/a=,b/", "a=,c=", "é=", "e\u0301=", "\xFF="} {
			texts := slices.Clone(up)
			for _, text := range strings.Split(below, ",") {
				if text != "" {
					texts = append(texts, own+"/"+text)
				}
			}
			l = append(l, made(t, texts...))
		}
		for k, x := range l {
			for other, y := range l {
				if k == other {
					mustBeSame(t, x, y.Copy())
				} else {
					mustBeUnlike(t, x, y)
				}
			}
		}
	}
}

// TestSameAsMeant: of two by chance, just if All tells the same.
func TestSameAsMeant(t *testing.T) {
	r := chance(6)
	same, unlike := 0, 0
	for range 5000 {
		x, _ := someTree(r, 5)
		y, _ := someTree(r, 5)
		want := slices.EqualFunc(x.All(), y.All(), sameItem)
		if x.Same(y) != want || y.Same(x) != want {
			t.Fatalf("%+v, %+v: %t, %t", x.All(), y.All(), x.Same(y), y.Same(x))
		}
		if want {
			same++
		} else {
			unlike++
		}
	}
	if same < 50 || unlike < 50 {
		t.Error("hardly any:", same, unlike)
	}
}

// TestSameOfOneChange: whichever of a tree's calls changed one.
func TestSameOfOneChange(t *testing.T) {
	for _, d := range changes() {
		x := sample(t)
		must(t, do(x, d).e, api.OK)
		mustBeUnlike(t, x, sample(t))
	}
}

func TestSameOfNils(t *testing.T) {
	var none *Tree
	if !none.Same(nil) || !none.Same(none) {
		t.Error("two nils aren't the same")
	}
	for _, x := range []*Tree{New(), sample(t)} {
		mustBeUnlike(t, x, nil)
		mustBeUnlike(t, none, x)
	}
}

// TestSameTellsTwiceTheSame: it changes nothing.
func TestSameTellsTwiceTheSame(t *testing.T) {
	x, y := sample(t), sample(t)
	must(t, y.Write("/a", 0, []byte("x")), api.OK)
	for range 3 {
		mustBeUnlike(t, x, y)
		mustBeSame(t, x, sample(t))
	}
	mustBe(t, x, plainSample())
}
