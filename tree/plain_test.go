package tree

import (
	"bytes"
	"math"
	"math/rand/v2"
	"slices"
	"strconv"
	"strings"
	"testing"

	"cantle/api"
)

// chance is a source of many numbers, always the same ones.
func chance(seed uint64) *rand.Rand { return rand.New(rand.NewPCG(seed, 13)) }

// short is a text in short, so that a long one can be told.
func short(text string) string {
	if len(text) > 200 {
		return strconv.Quote(text[:200]) + ".. of " + strconv.Itoa(len(text)) + " bytes"
	}
	return strconv.Quote(text)
}

// plainThing is a file or a directory of a plain tree.
type plainThing struct {
	dir  bool
	data []byte
}

// plain is a tree as it is thought of: all its things, the root too, by their paths, and nothing of what lies in what.
type plain map[string]plainThing

// plainNew is a root alone.
func plainNew() plain { return plain{"/": {dir: true}} }

// isName tells what a name is by chapter 8, byte by byte.
func isName(text string) bool {
	dots := 0
	for b := range len(text) {
		switch text[b] {
		case 0, 47:
			return false
		case 46:
			dots++
		}
	}
	return len(text) >= 1 && len(text) <= 48 && !(dots == len(text) && dots <= 2)
}

// namesOf are the names of a path by chapter 12; false: it is none.
func namesOf(text string) ([]string, bool) {
	if text == "/" {
		return nil, true
	}
	if text == "" || text[0] != '/' {
		return nil, false
	}
	names := strings.Split(text[1:], "/")
	return names, len(names) <= 64 && !slices.ContainsFunc(names, func(name string) bool { return !isName(name) })
}

// pathOf is the path of names, whatever they are.
func pathOf(names ...string) string { return "/" + strings.Join(names, "/") }

// aheadOf tells whether one path stands ahead of another one by chapter 12.
func aheadOf(a, b string) bool {
	x, _ := namesOf(a)
	y, _ := namesOf(b)
	for k := 0; ; k++ {
		switch {
		case k == len(x):
			return k < len(y)
		case k == len(y):
			return false
		}
		if c := bytes.Compare([]byte(x[k]), []byte(y[k])); c != 0 {
			return c < 0
		}
	}
}

// goTo is what is at a path.
func (p plain) goTo(text string) (plainThing, api.Errno) {
	names, is := namesOf(text)
	if !is {
		return plainThing{}, api.ErrName
	}
	for k := range names {
		x, is := p[pathOf(names[:k+1]...)]
		if !is {
			return plainThing{}, api.ErrMissing
		}
		if !x.dir && k+1 < len(names) {
			return plainThing{}, api.ErrNotDir
		}
	}
	return p[text], api.OK
}

// file is a file at a path.
func (p plain) file(text string) (plainThing, api.Errno) {
	x, e := p.goTo(text)
	if e == api.OK && x.dir {
		return plainThing{}, api.ErrIsDir
	}
	return x, e
}

// put makes a thing.
func (p plain) put(text string, dir bool) api.Errno {
	names, is := namesOf(text)
	if !is {
		return api.ErrName
	}
	if len(names) == 0 {
		return api.ErrExists
	}
	up, e := p.goTo(pathOf(names[:len(names)-1]...))
	if e != api.OK {
		return e
	}
	if !up.dir {
		return api.ErrNotDir
	}
	if _, is := p[text]; is {
		return api.ErrExists
	}
	p[text] = plainThing{dir: dir}
	return api.OK
}

// names are those of a directory, rising.
func (p plain) names(text string) []string {
	own, _ := namesOf(text)
	var l []string
	for other := range p {
		if names, _ := namesOf(other); len(names) == len(own)+1 && slices.Equal(names[:len(own)], own) {
			l = append(l, names[len(own)])
		}
	}
	slices.SortFunc(l, func(a, b string) int { return bytes.Compare([]byte(a), []byte(b)) })
	return l
}

// items are all but the root, in their order.
func (p plain) items() []Item {
	var l []Item
	for text, x := range p {
		if text != "/" {
			l = append(l, Item{Path: text, Dir: x.dir, Data: x.data})
		}
	}
	slices.SortFunc(l, func(a, b Item) int {
		if aheadOf(a.Path, b.Path) {
			return -1
		}
		return 1
	})
	return l
}

// deed is a call, but for All, Of, Count, Copy, Same.
type deed struct {
	call  string
	path  string
	at, n int
	data  []byte
}

func (d deed) String() string {
	return d.call + " of " + short(d.path) + ", " + strconv.Itoa(d.at) + ", " + strconv.Itoa(d.n) + ", " + short(string(d.data))
}

// answer is what a call told.
type answer struct {
	e     api.Errno
	data  []byte
	names []string
	size  int
	dir   bool
}

func (a answer) equals(o answer) bool {
	return a.e == o.e && bytes.Equal(a.data, o.data) && slices.Equal(a.names, o.names) && a.size == o.size && a.dir == o.dir
}

// calls are the names of all calls that are made of a path.
func calls() []string {
	return []string{"Create", "Mkdir", "Write", "Truncate", "Unlink", "Rmdir", "Read", "List", "Size"}
}

// do makes a call of a tree.
func do(x *Tree, d deed) (a answer) {
	switch d.call {
	case "Create":
		a.e = x.Create(d.path)
	case "Mkdir":
		a.e = x.Mkdir(d.path)
	case "Write":
		a.e = x.Write(d.path, d.at, d.data)
	case "Truncate":
		a.e = x.Truncate(d.path, d.at)
	case "Unlink":
		a.e = x.Unlink(d.path)
	case "Rmdir":
		a.e = x.Rmdir(d.path)
	case "Read":
		a.data, a.e = x.Read(d.path, d.at, d.n)
	case "List":
		a.names, a.e = x.List(d.path)
	case "Size":
		a.size, a.dir, a.e = x.Size(d.path)
	default:
		panic(d.call)
	}
	return a
}

// do makes a call of a plain tree, by the chapter's words.
func (p plain) do(d deed) answer {
	switch d.call {
	case "Create":
		return answer{e: p.put(d.path, false)}
	case "Mkdir":
		return answer{e: p.put(d.path, true)}
	case "Rmdir":
		return answer{e: p.rmdir(d.path)}
	case "List", "Size":
		return p.look(d)
	}
	x, e := p.file(d.path)
	if e != api.OK {
		return answer{e: e}
	}
	switch d.call {
	case "Write":
		return answer{e: p.write(d, x)}
	case "Truncate":
		return answer{e: p.truncate(d, x)}
	case "Unlink":
		delete(p, d.path)
		return answer{}
	}
	if d.at < 0 || d.n < 0 {
		return answer{e: api.ErrRange}
	}
	var data []byte
	for k := range x.data {
		if k >= d.at && len(data) < d.n {
			data = append(data, x.data[k])
		}
	}
	return answer{data: data}
}

func (p plain) rmdir(text string) api.Errno {
	x, e := p.goTo(text)
	switch {
	case e != api.OK:
		return e
	case !x.dir:
		return api.ErrNotDir
	case text == "/":
		return api.ErrArg
	case len(p.names(text)) > 0:
		return api.ErrNotEmpty
	}
	delete(p, text)
	return api.OK
}

// look is List and Size.
func (p plain) look(d deed) answer {
	x, e := p.goTo(d.path)
	switch {
	case e != api.OK:
		return answer{e: e}
	case d.call == "List" && !x.dir:
		return answer{e: api.ErrNotDir}
	case d.call == "List":
		return answer{names: p.names(d.path)}
	case x.dir:
		return answer{size: len(p.names(d.path)), dir: true}
	}
	return answer{size: len(x.data)}
}

// write is of a file, byte by byte.
func (p plain) write(d deed, x plainThing) api.Errno {
	if d.at < 0 || uint64(d.at)+uint64(len(d.data)) > 1<<28 {
		return api.ErrRange
	}
	if len(d.data) == 0 {
		return api.OK
	}
	data := slices.Clone(x.data)
	for len(data) < d.at {
		data = append(data, 0)
	}
	for k, b := range d.data {
		if d.at+k == len(data) {
			data = append(data, b)
		} else {
			data[d.at+k] = b
		}
	}
	p[d.path] = plainThing{data: data}
	return api.OK
}

// truncate is of a file.
func (p plain) truncate(d deed, x plainThing) api.Errno {
	if d.at < 0 || d.at > 1<<28 {
		return api.ErrRange
	}
	data := make([]byte, d.at)
	copy(data, x.data)
	p[d.path] = plainThing{data: data}
	return api.OK
}

// mustAnswer fails, unless a tree answers a call as the plain one does; both are told it.
func mustAnswer(t *testing.T, x *Tree, p plain, d deed) answer {
	t.Helper()
	want := p.do(d)
	got := do(x, d)
	if !got.equals(want) {
		t.Fatalf("%s: %+v, want %+v", d, got, want)
	}
	return got
}

// mustBe fails, unless a tree is just as the plain one is, by each call that tells of it, and is still so behind that.
func mustBe(t *testing.T, x *Tree, p plain) {
	t.Helper()
	if got := x.Count(); got != len(p) {
		t.Fatalf("Count: %d, want %d", got, len(p))
	}
	mustHave(t, x, p.items()...)
	for text, own := range p {
		mustAnswer(t, x, p, deed{call: "Size", path: text})
		mustAnswer(t, x, p, deed{call: "List", path: text})
		mustAnswer(t, x, p, deed{call: "Read", path: text, n: len(own.data) + 9})
		for _, missing := range []string{"none", "none/none"} {
			mustAnswer(t, x, p, deed{call: "Size", path: strings.TrimSuffix(text, "/") + "/" + missing})
		}
	}
}

// mustHave fails, unless All tells just these.
func mustHave(t *testing.T, x *Tree, want ...Item) {
	t.Helper()
	got := x.All()
	if !slices.EqualFunc(got, want, sameItem) {
		t.Fatalf("All: %+v, want %+v", got, want)
	}
}

func sameItem(a, b Item) bool {
	return a.Path == b.Path && a.Dir == b.Dir && bytes.Equal(a.Data, b.Data)
}

// someName is one of a few names, of which some begin others, or are other bytes than a text has.
func someName(r *rand.Rand) string {
	l := []string{"a", "aa", "a!", "a.", "b", "...", "\x80", "\xFF", "é", "B"}
	return l[r.IntN(len(l))]
}

// somePath is mostly a path of few names; now and then none.
func somePath(r *rand.Rand, p plain) string {
	switch r.IntN(12) {
	case 0:
		l := []string{"", "/", "//", "a", "/a/", "/a//a", "/.", "/a/..", "/\x00", "/a/b\x00", "/" + strings.Repeat("a", 49), strings.Repeat("/a", 65)}
		return l[r.IntN(len(l))]
	case 1, 2, 3, 4, 5, 6:
		// What there is, in the plain one's order, as a map is gone through in any.
		items := p.items()
		if len(items) > 0 {
			text := items[r.IntN(len(items))].Path
			if r.IntN(2) == 0 {
				return text
			}
			return text + "/" + someName(r)
		}
	}
	names := make([]string, 1+r.IntN(3))
	for k := range names {
		names[k] = someName(r)
	}
	return pathOf(names...)
}

// someNumber is mostly a small one, now and then below 0 or beyond all.
func someNumber(r *rand.Rand) int {
	if r.IntN(8) == 0 {
		l := []int{-1, -2, math.MinInt, math.MinInt + 1, math.MaxInt, math.MaxInt - 1, 1<<28 + 1, 1 << 32, 1<<32 + 1}
		return l[r.IntN(len(l))]
	}
	return r.IntN(40)
}

// someDeed is one of a few calls more often than others, so that trees grow.
func someDeed(r *rand.Rand, p plain) deed {
	l := append(calls(), "Create", "Mkdir", "Mkdir", "Write", "Write", "Truncate")
	d := deed{call: l[r.IntN(len(l))], path: somePath(r, p), at: someNumber(r), n: someNumber(r)}
	d.data = make([]byte, r.IntN(20))
	for k := range d.data {
		d.data[k] = byte(1 + r.IntN(255))
	}
	return d
}

// someTree is a tree and the plain one of what was told to both, by chance.
func someTree(r *rand.Rand, deeds int) (*Tree, plain) {
	x, p := New(), plainNew()
	for range deeds {
		d := someDeed(r, p)
		p.do(d)
		do(x, d)
	}
	return x, p
}

// TestManyCalls tells a tree and a plain one the same, by chance, and holds them against each other; behind an error nothing has changed, as the plain one tells.
func TestManyCalls(t *testing.T) {
	r := chance(1)
	met := map[string]int{}
	for range 150 {
		x, p := New(), plainNew()
		for range 120 {
			d := someDeed(r, p)
			a := mustAnswer(t, x, p, d)
			met[d.call+strconv.Itoa(int(a.e))]++
			if a.e != api.OK || r.IntN(8) == 0 {
				mustBe(t, x, p)
			}
		}
		mustBe(t, x, p)
	}
	for _, call := range calls() {
		for _, e := range []api.Errno{api.OK, api.ErrName, api.ErrMissing, api.ErrNotDir} {
			if met[call+strconv.Itoa(int(e))] == 0 {
				t.Errorf("%s: never %d", call, e)
			}
		}
	}
	for _, one := range []string{"Create5", "Mkdir5", "Write7", "Write9", "Truncate7", "Truncate9", "Unlink7", "Rmdir1", "Rmdir8", "Read7", "Read9"} {
		if met[one] == 0 {
			t.Errorf("never: %s", one)
		}
	}
}
