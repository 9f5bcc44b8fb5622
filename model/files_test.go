package model

import (
	"math"
	"math/rand/v2"
	"slices"
	"strconv"
	"strings"
	"testing"

	"cantle/api"
	"cantle/tree"
)

// Chapter 13's tree is such Files.
var _ Files = tree.New()

// kinds are all that there are.
func kinds() []Kind { return []Kind{0, 1, 2, 3, 4, 5, 6, 7} }

// noKinds are numbers that are no kind: near to them, as far as an int may be, and such whose low bits alone would be one.
func noKinds() []Kind {
	l := []Kind{-1, -2, -3, -7, -8, -9, 8, 9, 10, 15, 16, 64, 255, math.MaxInt32, math.MinInt32, math.MaxInt - 1, math.MaxInt, math.MinInt, math.MinInt + 1}
	for _, k := range kinds() {
		for _, far := range []Kind{1 << 4, 1 << 8, 1 << 16, 1 << 31, 1 << 32, 1 << 48, math.MinInt} {
			l = append(l, far+k, -far+k)
		}
	}
	return slices.DeleteFunc(l, func(k Kind) bool { return k >= 0 && k <= 7 })
}

// told is a deed as a text.
func told(d Deed) string {
	return "kind " + strconv.Itoa(int(d.Kind)) + " of " + strconv.Quote(d.Path) + ", " + strconv.Itoa(d.At) + ", " + strconv.Itoa(d.N) + ", " + strconv.Quote(string(d.Data))
}

// alike tells whether two answers are the same, part by part.
func alike(a, b Answer) bool {
	return a.E == b.E && string(a.Data) == string(b.Data) && len(a.Names) == len(b.Names) && slices.Equal(a.Names, b.Names)
}

// mustAnswer fails, unless an answer is just this one.
func mustAnswer(t *testing.T, d Deed, got, want Answer) {
	t.Helper()
	if !alike(got, want) {
		t.Fatalf("%s: %+v, want %+v", told(d), got, want)
	}
}

// mustBe fails, unless two trees have the same things.
func mustBe(t *testing.T, x, want *tree.Tree) {
	t.Helper()
	if !x.Same(want) {
		t.Fatalf("%+v, want %+v", x.All(), want.All())
	}
}

// sample is a tree with files and directories in each other, empty ones among them.
func sample(t *testing.T) *tree.Tree {
	t.Helper()
	x, e := tree.Of(
		tree.Item{Path: "/a", Data: []byte("abc")}, tree.Item{Path: "/d", Dir: true}, tree.Item{Path: "/d/e", Dir: true},
		tree.Item{Path: "/d/e/f", Data: []byte("hello")}, tree.Item{Path: "/d/g"}, tree.Item{Path: "/d/h", Dir: true},
		tree.Item{Path: "/empty", Dir: true}, tree.Item{Path: "/z"},
	)
	if e != api.OK {
		t.Fatal(e)
	}
	return x
}

// samplePaths are what a sample has, what it hasn't, and texts that are no path.
func samplePaths() []string {
	return []string{
		"/", "/a", "/d", "/d/e", "/d/e/f", "/d/g", "/d/h", "/empty", "/z", "/none", "/d/none", "/none/a", "/a/b", "/z/b/c",
		"", "a", "//", "/a/", "/d/.", "/..", "/a\x00", "/" + strings.Repeat("n", 48), "/" + strings.Repeat("n", 49), strings.Repeat("/a", 65),
	}
}

// called is what the call of chapter 13 answers that the table has for a kind.
func called(x *tree.Tree, d Deed) Answer {
	var a Answer
	switch d.Kind {
	case 0:
		a.E = x.Create(d.Path)
	case 1:
		a.E = x.Mkdir(d.Path)
	case 2:
		a.E = x.Write(d.Path, d.At, d.Data)
	case 3:
		a.E = x.Truncate(d.Path, d.At)
	case 4:
		a.E = x.Unlink(d.Path)
	case 5:
		a.E = x.Rmdir(d.Path)
	case 6:
		a.Data, a.E = x.Read(d.Path, d.At, d.N)
	case 7:
		a.Names, a.E = x.List(d.Path)
	default:
		a.E = api.ErrArg
	}
	return a
}

// chance is a source of many numbers, always the same ones.
func chance(seed uint64) *rand.Rand { return rand.New(rand.NewPCG(seed, 14)) }

// someDeed is mostly of few names, so that much of it is met again; now and then of no kind, no path, or numbers that may not be.
func someDeed(r *rand.Rand) Deed {
	d := Deed{Kind: Kind(r.IntN(8)), At: r.IntN(20), N: r.IntN(20), Data: make([]byte, r.IntN(12))}
	for range 1 + r.IntN(3) {
		d.Path += "/" + []string{"a", "b", "aa", "\xFF"}[r.IntN(4)]
	}
	for k := range d.Data {
		d.Data[k] = byte(1 + r.IntN(255))
	}
	switch r.IntN(20) {
	case 0:
		d.Kind = noKinds()[r.IntN(len(noKinds()))]
	case 1:
		d.Path = samplePaths()[r.IntN(len(samplePaths()))]
	case 2:
		d.At = []int{-1, math.MinInt, math.MaxInt, 1<<28 + 1}[r.IntN(4)]
	case 3:
		d.N = []int{-1, math.MinInt, math.MaxInt, 1 << 28}[r.IntN(4)]
	}
	return d
}

// someDeeds are some by chance.
func someDeeds(r *rand.Rand, count int) []Deed {
	l := make([]Deed, count)
	for k := range l {
		l[k] = someDeed(r)
	}
	return l
}

// call is what a spy was asked: by which call, and with what.
type call struct {
	name  string
	path  string
	at, n int
	data  string
}

// spy is Files that are no tree: it keeps what it was asked, and answers what it was told to, whatever it was asked.
type spy struct {
	calls []call
	e     api.Errno
	data  []byte
	names []string
}

func (s *spy) tell(c call) api.Errno {
	s.calls = append(s.calls, c)
	return s.e
}

func (s *spy) Create(path string) api.Errno { return s.tell(call{name: "create", path: path}) }
func (s *spy) Mkdir(path string) api.Errno  { return s.tell(call{name: "mkdir", path: path}) }
func (s *spy) Write(path string, at int, b []byte) api.Errno {
	return s.tell(call{name: "write", path: path, at: at, data: string(b)})
}
func (s *spy) Truncate(path string, size int) api.Errno {
	return s.tell(call{name: "truncate", path: path, at: size})
}
func (s *spy) Unlink(path string) api.Errno { return s.tell(call{name: "unlink", path: path}) }
func (s *spy) Rmdir(path string) api.Errno  { return s.tell(call{name: "rmdir", path: path}) }
func (s *spy) Read(path string, at, n int) ([]byte, api.Errno) {
	return s.data, s.tell(call{name: "read", path: path, at: at, n: n})
}
func (s *spy) List(path string) ([]string, api.Errno) {
	return s.names, s.tell(call{name: "list", path: path})
}

// asked is the one call that a deed comes to.
func asked(d Deed) call {
	switch d.Kind {
	case 0:
		return call{name: "create", path: d.Path}
	case 1:
		return call{name: "mkdir", path: d.Path}
	case 2:
		return call{name: "write", path: d.Path, at: d.At, data: string(d.Data)}
	case 3:
		return call{name: "truncate", path: d.Path, at: d.At}
	case 4:
		return call{name: "unlink", path: d.Path}
	case 5:
		return call{name: "rmdir", path: d.Path}
	case 6:
		return call{name: "read", path: d.Path, at: d.At, n: d.N}
	}
	return call{name: "list", path: d.Path}
}

// holder is Files with one file and one directory that keeps what it is handed, spoils the room behind it, and answers what it keeps.
type holder struct {
	spy
	bytes []byte
	own   []string
}

func (h *holder) Write(_ string, _ int, b []byte) api.Errno {
	spoil(b[len(b):cap(b)])
	h.bytes = b
	return api.OK
}

func (h *holder) Read(string, int, int) ([]byte, api.Errno) { return h.bytes, api.OK }
func (h *holder) List(string) ([]string, api.Errno)         { return h.own, api.OK }

// spoil changes bytes, and the room behind them.
func spoil(b []byte) {
	b = b[:cap(b)]
	for k := range b {
		b[k] = '#'
	}
}

// spoilNames changes names, and the room behind them.
func spoilNames(l []string) {
	l = l[:cap(l)]
	for k := range l {
		l[k] = "spoiled"
	}
}

// spoilAnswers changes answers, what they have, and the room behind all that.
func spoilAnswers(l []Answer) {
	l = l[:cap(l)]
	for k := range l {
		spoil(l[k].Data)
		spoilNames(l[k].Names)
		l[k] = Answer{E: 77, Data: []byte("spoiled"), Names: []string{"spoiled"}}
	}
}
