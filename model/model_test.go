package model

import (
	"math"
	"slices"
	"strconv"
	"testing"

	"cantle/api"
	"cantle/tree"
)

// The example

func TestExample(t *testing.T) {
	l := Run(tree.New(), Deed{Kind: Create, Path: "/a"}, Deed{Kind: Read, Path: "/a", At: 0, N: 5}, Deed{Kind: List, Path: "/"})
	want := []Answer{{}, {}, {Names: []string{"a"}}}
	if !slices.EqualFunc(l, want, alike) {
		t.Errorf("%+v, want %+v", l, want)
	}
}

// What there is

func TestKindsAreNumbered(t *testing.T) {
	if got := []Kind{Create, Mkdir, Write, Truncate, Unlink, Rmdir, Read, List}; !slices.Equal(got, kinds()) {
		t.Error(got)
	}
}

// TestFieldsInTheirOrder: they are named by their places alone.
func TestFieldsInTheirOrder(t *testing.T) {
	d := Deed{Write, "/a", 1, 2, []byte("x")}
	if d.Kind != 2 || d.Path != "/a" || d.At != 1 || d.N != 2 || string(d.Data) != "x" {
		t.Errorf("%+v", d)
	}
	a := Answer{api.ErrForm, []byte("x"), []string{"n"}}
	if a.E != 2 || string(a.Data) != "x" || len(a.Names) != 1 {
		t.Errorf("%+v", a)
	}
}

// P14.1: Do

// errorsOf is which errors a kind can tell, OK among them.
func errorsOf(k Kind) []api.Errno {
	l := []api.Errno{api.OK, api.ErrName, api.ErrMissing, api.ErrNotDir}
	switch k {
	case 0, 1:
		return append(l, api.ErrExists)
	case 2, 3, 6:
		return append(l, api.ErrIsDir, api.ErrRange)
	case 4:
		return append(l, api.ErrIsDir)
	case 5:
		return append(l, api.ErrArg, api.ErrNotEmpty)
	}
	return l
}

// TestDoIsTheCall: each kind of each path, with all kinds of numbers and bytes; the answers are those of chapter 13's calls, and so is the tree behind them.
func TestDoIsTheCall(t *testing.T) {
	whole := sample(t)
	met := map[Kind]map[api.Errno]bool{}
	for _, k := range kinds() {
		met[k] = map[api.Errno]bool{}
		for _, p := range samplePaths() {
			for _, at := range []int{0, 1, 2, 3, 5, 9, -1, math.MinInt, 1<<28 + 1, math.MaxInt} {
				for _, n := range []int{0, 1, 3, 99, -1, math.MinInt, math.MaxInt} {
					for _, data := range [][]byte{nil, []byte("xy"), []byte("longer than all")} {
						d := Deed{Kind: k, Path: p, At: at, N: n, Data: data}
						x, y := whole.Copy(), whole.Copy()
						want := called(y, d)
						mustAnswer(t, d, Do(x, d), want)
						mustBe(t, x, y)
						met[k][want.E] = true
					}
				}
			}
		}
	}
	for _, k := range kinds() {
		for _, e := range errorsOf(k) {
			if !met[k][e] {
				t.Errorf("kind %d: never %d", k, e)
			}
		}
		if len(met[k]) != len(errorsOf(k)) {
			t.Errorf("kind %d: %v", k, met[k])
		}
	}
}

// TestDoByHand: of a sample each, what a deed answers, and what there is behind it.
func TestDoByHand(t *testing.T) {
	for _, c := range []struct {
		deed   Deed
		want   Answer
		behind Deed
		then   Answer
	}{
		{Deed{Kind: 0, Path: "/b"}, Answer{}, Deed{Kind: 7, Path: "/"}, Answer{Names: []string{"a", "b", "d", "empty", "z"}}},
		{Deed{Kind: 0, Path: "/b"}, Answer{}, Deed{Kind: 6, Path: "/b", N: 9}, Answer{}},
		{Deed{Kind: 1, Path: "/b"}, Answer{}, Deed{Kind: 7, Path: "/"}, Answer{Names: []string{"a", "b", "d", "empty", "z"}}},
		{Deed{Kind: 1, Path: "/b"}, Answer{}, Deed{Kind: 7, Path: "/b"}, Answer{}},
		{Deed{Kind: 2, Path: "/a", At: 2, Data: []byte("xyz")}, Answer{}, Deed{Kind: 6, Path: "/a", N: 9}, Answer{Data: []byte("abxyz")}},
		{Deed{Kind: 2, Path: "/a", At: 4, Data: []byte("x")}, Answer{}, Deed{Kind: 6, Path: "/a", N: 9}, Answer{Data: []byte("abc\x00x")}},
		{Deed{Kind: 3, Path: "/a", At: 1}, Answer{}, Deed{Kind: 6, Path: "/a", N: 9}, Answer{Data: []byte("a")}},
		{Deed{Kind: 3, Path: "/a", At: 5}, Answer{}, Deed{Kind: 6, Path: "/a", N: 9}, Answer{Data: []byte("abc\x00\x00")}},
		{Deed{Kind: 4, Path: "/a"}, Answer{}, Deed{Kind: 6, Path: "/a", N: 9}, Answer{E: 4}},
		{Deed{Kind: 5, Path: "/d/h"}, Answer{}, Deed{Kind: 7, Path: "/d"}, Answer{Names: []string{"e", "g"}}},
		{Deed{Kind: 6, Path: "/d/e/f", At: 1, N: 3}, Answer{Data: []byte("ell")}, Deed{Kind: 6, Path: "/d/e/f", N: 9}, Answer{Data: []byte("hello")}},
		{Deed{Kind: 7, Path: "/d"}, Answer{Names: []string{"e", "g", "h"}}, Deed{Kind: 7, Path: "/d"}, Answer{Names: []string{"e", "g", "h"}}},
		{Deed{Kind: 0, Path: "/d"}, Answer{E: 5}, Deed{Kind: 7, Path: "/d/e"}, Answer{Names: []string{"f"}}},
		{Deed{Kind: 1, Path: "/a"}, Answer{E: 5}, Deed{Kind: 6, Path: "/a", N: 9}, Answer{Data: []byte("abc")}},
		{Deed{Kind: 2, Path: "/a", At: -1, Data: []byte("x")}, Answer{E: 9}, Deed{Kind: 6, Path: "/a", N: 9}, Answer{Data: []byte("abc")}},
		{Deed{Kind: 2, Path: "/d", Data: []byte("x")}, Answer{E: 7}, Deed{Kind: 7, Path: "/d/e"}, Answer{Names: []string{"f"}}},
		{Deed{Kind: 3, Path: "/a", At: -1}, Answer{E: 9}, Deed{Kind: 6, Path: "/a", N: 9}, Answer{Data: []byte("abc")}},
		{Deed{Kind: 4, Path: "/d"}, Answer{E: 7}, Deed{Kind: 7, Path: "/d/e"}, Answer{Names: []string{"f"}}},
		{Deed{Kind: 5, Path: "/d"}, Answer{E: 8}, Deed{Kind: 7, Path: "/d/e"}, Answer{Names: []string{"f"}}},
		{Deed{Kind: 5, Path: "/a"}, Answer{E: 6}, Deed{Kind: 6, Path: "/a", N: 9}, Answer{Data: []byte("abc")}},
		{Deed{Kind: 5, Path: "/"}, Answer{E: 1}, Deed{Kind: 7, Path: "/d/e"}, Answer{Names: []string{"f"}}},
		{Deed{Kind: 6, Path: "/a", At: 0, N: -1}, Answer{E: 9}, Deed{Kind: 6, Path: "/a", N: 9}, Answer{Data: []byte("abc")}},
		{Deed{Kind: 6, Path: "a/", At: 0, N: 1}, Answer{E: 3}, Deed{Kind: 6, Path: "/a", N: 9}, Answer{Data: []byte("abc")}},
		{Deed{Kind: 7, Path: "/a"}, Answer{E: 6}, Deed{Kind: 6, Path: "/a", N: 9}, Answer{Data: []byte("abc")}},
	} {
		x := sample(t)
		mustAnswer(t, c.deed, Do(x, c.deed), c.want)
		mustAnswer(t, c.behind, Do(x, c.behind), c.then)
	}
}

// unasked are a deed with other things that its kind doesn't ask for.
func unasked(d Deed) []Deed {
	var l []Deed
	for _, number := range []int{0, 1, -1, 7, math.MinInt, math.MaxInt, 1<<28 + 1} {
		for _, data := range [][]byte{nil, {}, []byte("other"), make([]byte, 99)} {
			o := d
			if d.Kind != 6 {
				o.N = number
			}
			if d.Kind != 2 && d.Kind != 3 && d.Kind != 6 {
				o.At = number
			}
			if d.Kind != 2 {
				o.Data = data
			}
			l = append(l, o)
		}
	}
	return l
}

// TestDoAsksForNothingElse: another At, N, or Data of a kind that doesn't ask for it changes neither its answer nor what is done.
func TestDoAsksForNothingElse(t *testing.T) {
	whole := sample(t)
	for _, k := range kinds() {
		for _, p := range samplePaths() {
			d := Deed{Kind: k, Path: p, At: 1, N: 3, Data: []byte("xy")}
			x := whole.Copy()
			want := Do(x, d)
			for _, other := range unasked(d) {
				y := whole.Copy()
				mustAnswer(t, other, Do(y, other), want)
				mustBe(t, y, x)
			}
		}
	}
}

// TestDoOfNoKind: whatever else the deed has; nothing changes, and nobody is asked.
func TestDoOfNoKind(t *testing.T) {
	x, want := sample(t), sample(t)
	for _, k := range noKinds() {
		for _, p := range []string{"/", "/a", "/d/h", "/new", "none", ""} {
			d := Deed{Kind: k, Path: p, At: 1, N: 2, Data: []byte("xy")}
			mustAnswer(t, d, Do(x, d), Answer{E: api.ErrArg})
			s := &spy{data: []byte("data"), names: []string{"names"}}
			mustAnswer(t, d, Do(s, d), Answer{E: api.ErrArg})
			if len(s.calls) > 0 {
				t.Fatalf("%s: asked %+v", told(d), s.calls)
			}
		}
	}
	mustBe(t, x, want)
}

// TestTruncateTakesAt: as the size, whatever N is.
func TestTruncateTakesAt(t *testing.T) {
	for _, size := range []int{0, 1, 2, 3, 4, 9} {
		for _, n := range []int{0, 2, 5, 1000, -1, math.MinInt, math.MaxInt} {
			x := sample(t)
			d := Deed{Kind: Truncate, Path: "/a", At: size, N: n}
			mustAnswer(t, d, Do(x, d), Answer{})
			if got, _, _ := x.Size("/a"); got != size {
				t.Fatalf("%s: %d bytes", told(d), got)
			}
		}
	}
	for _, size := range []int{-1, math.MinInt, 1<<28 + 1, math.MaxInt} {
		for _, n := range []int{0, 2, -1} {
			x := sample(t)
			d := Deed{Kind: Truncate, Path: "/a", At: size, N: n}
			mustAnswer(t, d, Do(x, d), Answer{E: api.ErrRange})
			mustBe(t, x, sample(t))
		}
	}
}

// TestReadOfEveryStretch: of none, of fewer and of more bytes than there are.
func TestReadOfEveryStretch(t *testing.T) {
	x, own := sample(t), "hello"
	for _, at := range []int{0, 1, 2, 4, 5, 6, 100, math.MaxInt} {
		for _, n := range []int{0, 1, 2, 4, 5, 6, 100, math.MaxInt} {
			from := min(at, len(own))
			d := Deed{Kind: Read, Path: "/d/e/f", At: at, N: n}
			mustAnswer(t, d, Do(x, d), Answer{Data: []byte(own[from : from+min(n, len(own)-from)])})
			// A file without bytes has none, wherever.
			d.Path = "/z"
			mustAnswer(t, d, Do(x, d), Answer{})
		}
	}
	mustBe(t, x, sample(t))
}

// TestDoByOthers: whoever has the files, he is asked once, by the kind's call, with what the deed has.
func TestDoByOthers(t *testing.T) {
	for _, k := range kinds() {
		for _, p := range append(samplePaths(), "no path", "\xFF\x00") {
			for _, at := range []int{0, 1, -1, math.MinInt, math.MaxInt, 1<<28 + 1, 1 << 32} {
				for _, n := range []int{0, 2, -2, math.MinInt, math.MaxInt, 1 << 33} {
					for _, data := range [][]byte{nil, {}, []byte("\x00\xFF data")} {
						d := Deed{Kind: k, Path: p, At: at, N: n, Data: data}
						s := &spy{}
						mustAnswer(t, d, Do(s, d), Answer{})
						if want := []call{asked(d)}; !slices.Equal(s.calls, want) {
							t.Fatalf("%s: asked %+v, want %+v", told(d), s.calls, want)
						}
					}
				}
			}
		}
	}
}

// TestDoTellsWhatOthersAnswer: Data of Read alone, Names of List alone, and none of them with an error, whichever it is.
func TestDoTellsWhatOthersAnswer(t *testing.T) {
	s := &spy{data: []byte("data"), names: []string{"n", "a", "m", "n"}}
	for _, e := range []api.Errno{0, 1, 2, 3, 4, 5, 6, 7, 8, 9, 10, 11, 12, 13, 14, 15, -1, math.MinInt, math.MaxInt} {
		s.e = e
		for _, k := range kinds() {
			want := Answer{E: e}
			if k == 6 && e == 0 {
				want.Data = []byte("data")
			}
			if k == 7 && e == 0 {
				want.Names = []string{"n", "a", "m", "n"}
			}
			d := Deed{Kind: k, Path: "/a", At: 1, N: 2, Data: []byte("xy")}
			mustAnswer(t, d, Do(s, d), want)
		}
	}
}

// P14.1: Run

func TestRunOfNone(t *testing.T) {
	x := sample(t)
	for _, l := range [][]Deed{nil, {}, make([]Deed, 3)[:0]} {
		if got := Run(x, l...); len(got) != 0 {
			t.Errorf("%+v", got)
		}
	}
	mustBe(t, x, sample(t))
	s := &spy{}
	Run(s)
	if len(s.calls) > 0 {
		t.Errorf("asked %+v", s.calls)
	}
}

func TestRunOfOne(t *testing.T) {
	whole := sample(t)
	for _, k := range append(kinds(), -1, 8) {
		for _, p := range samplePaths() {
			d := Deed{Kind: k, Path: p, At: 1, N: 2, Data: []byte("xy")}
			x, y := whole.Copy(), whole.Copy()
			got := Run(x, d)
			if len(got) != 1 {
				t.Fatalf("%s: %d answers", told(d), len(got))
			}
			mustAnswer(t, d, got[0], called(y, d))
			mustBe(t, x, y)
		}
	}
}

// TestRunGoesOn: behind deeds that erred, the first one among them.
func TestRunGoesOn(t *testing.T) {
	x := tree.New()
	got := Run(x,
		Deed{Kind: Read, Path: "/a", N: 9}, Deed{Kind: Create, Path: "/a"}, Deed{Kind: Create, Path: "/a"}, Deed{Kind: 8, Path: "/a"}, Deed{Kind: -1},
		Deed{Kind: Write, Path: "/a", At: 1, Data: []byte("x")}, Deed{Kind: Read, Path: "/a", N: 9}, Deed{Kind: Rmdir, Path: "/"}, Deed{Kind: List, Path: "/"})
	want := []Answer{{E: 4}, {}, {E: 5}, {E: 1}, {E: 1}, {}, {Data: []byte("\x00x")}, {E: 1}, {Names: []string{"a"}}}
	if !slices.EqualFunc(got, want, alike) {
		t.Errorf("%+v, want %+v", got, want)
	}
}

// TestRunIsOneByOne: deeds by chance, as many answers as deeds, each one that of Do, of another tree.
func TestRunIsOneByOne(t *testing.T) {
	r := chance(1)
	met := map[api.Errno]int{}
	for _, count := range append(slices.Repeat([]int{2, 3, 10, 100}, 40), 5000) {
		l := someDeeds(r, count)
		x, y := tree.New(), tree.New()
		got := Run(x, l...)
		if len(got) != count {
			t.Fatalf("of %d deeds: %d answers", count, len(got))
		}
		for k, d := range l {
			want := Do(y, d)
			mustAnswer(t, d, got[k], want)
			met[want.E]++
		}
		mustBe(t, x, y)
	}
	for e := range api.ErrNoSpace {
		if e != api.ErrForm && met[e] == 0 {
			t.Errorf("never: %d", e)
		}
	}
}

// TestRunIsTheCalls: as TestRunIsOneByOne, by chapter 13's calls.
func TestRunIsTheCalls(t *testing.T) {
	r := chance(2)
	for range 60 {
		l := someDeeds(r, 150)
		x, y := tree.New(), tree.New()
		for k, got := range Run(x, l...) {
			mustAnswer(t, l[k], got, called(y, l[k]))
		}
		mustBe(t, x, y)
	}
}

// TestRunTwice: two runs are one run of all deeds.
func TestRunTwice(t *testing.T) {
	r := chance(3)
	for range 60 {
		l := someDeeds(r, 60)
		x, y := tree.New(), tree.New()
		want := Run(x, l...)
		cut := r.IntN(len(l) + 1)
		got := slices.Concat(Run(y, l[:cut]...), Run(y, l[cut:]...))
		if !slices.EqualFunc(got, want, alike) {
			t.Fatalf("cut at %d: %+v, want %+v", cut, got, want)
		}
		mustBe(t, y, x)
	}
}

// TestRunByOthers: each deed is one call, in their order, and what is no kind is none.
func TestRunByOthers(t *testing.T) {
	r := chance(4)
	for _, e := range []api.Errno{api.OK, api.ErrDown} {
		s := &spy{e: e}
		l := someDeeds(r, 500)
		var want []call
		for _, d := range l {
			if d.Kind >= 0 && d.Kind <= 7 {
				want = append(want, asked(d))
			}
		}
		if got := Run(s, l...); len(got) != len(l) || !slices.Equal(s.calls, want) {
			t.Fatalf("%d answers, asked %+v, want %+v", len(got), s.calls, want)
		}
	}
}

// P14.1: Name and Changes

func TestName(t *testing.T) {
	for k, want := range []string{"create", "mkdir", "write", "truncate", "unlink", "rmdir", "read", "list"} {
		if got := Name(Kind(k)); got != want {
			t.Errorf("%d: %q, want %q", k, got, want)
		}
	}
	for _, k := range noKinds() {
		if got := Name(k); got != "" {
			t.Errorf("%d: %q", k, got)
		}
	}
}

func TestChanges(t *testing.T) {
	for k, want := range []bool{true, true, true, true, true, true, false, false} {
		if got := Changes(Kind(k)); got != want {
			t.Errorf("%d: %t", k, got)
		}
	}
	for _, k := range noKinds() {
		if Changes(k) {
			t.Errorf("%d: true", k)
		}
	}
}

// TestWhatChangesNothing leaves a tree as it was, and of each other kind something changes one.
func TestWhatChangesNothing(t *testing.T) {
	whole := sample(t)
	for _, k := range append(kinds(), -1, 8) {
		changed := false
		for _, p := range append(samplePaths(), "/new") {
			x := whole.Copy()
			Do(x, Deed{Kind: k, Path: p, At: 1, N: 2, Data: []byte("xy")})
			changed = changed || !x.Same(whole)
		}
		if changed != Changes(k) {
			t.Errorf("kind %s: changed %t", strconv.Itoa(int(k)), changed)
		}
	}
}
