package model

import (
	"bytes"
	"slices"
	"testing"

	"cantle/tree"
)

// P14.2: what is handed in

// TestWhatIsWrittenStays: a deed's Data is changed behind it, with the room behind, and the file has what it was; of no bytes, some, and many.
func TestWhatIsWrittenStays(t *testing.T) {
	for _, size := range []int{0, 1, 3, 8, 64, 5000} {
		for _, at := range []int{0, 1, 2, 3, 7} {
			for _, run := range []bool{false, true} {
				whole := append(bytes.Repeat([]byte("x"), size), "spare room"...)
				d := Deed{Kind: Write, Path: "/a", At: at, Data: whole[:size]}
				x, want := sample(t), sample(t)
				want.Write("/a", at, bytes.Repeat([]byte("x"), size))
				if run {
					Run(x, d)
				} else {
					Do(x, d)
				}
				if string(whole[size:]) != "spare room" || !bytes.Equal(d.Data, bytes.Repeat([]byte("x"), size)) {
					t.Fatalf("changed to %q", whole)
				}
				spoil(whole)
				mustBe(t, x, want)
			}
		}
	}
}

// TestDeedsStayAsTheyAre: a list of them, what each one has, and the room behind all that, through many deeds on the same files.
func TestDeedsStayAsTheyAre(t *testing.T) {
	r := chance(5)
	for range 60 {
		l := someDeeds(r, 80)
		for k := range l {
			l[k].Data = append(l[k].Data, "spare"...)[:len(l[k].Data)]
		}
		before := slices.Clone(l)
		for k := range before {
			before[k].Data = slices.Clone(l[k].Data[:len(l[k].Data)+5])
		}
		x := tree.New()
		Run(x, l[:60]...)
		Run(x, l[:20]...)
		for _, d := range l[:60] {
			Do(x, d)
		}
		for k, d := range l {
			want := before[k]
			if d.Kind != want.Kind || d.Path != want.Path || d.At != want.At || d.N != want.N || len(d.Data)+5 != len(want.Data) || !bytes.Equal(d.Data[:len(want.Data)], want.Data) {
				t.Fatalf("%s: changed to %s", told(want), told(d))
			}
		}
	}
}

// TestDeedsAreNotKept: behind a run all of them are changed, and the files and the answers stay.
func TestDeedsAreNotKept(t *testing.T) {
	r := chance(6)
	for range 60 {
		l := someDeeds(r, 80)
		x, y := tree.New(), tree.New()
		got, want := Run(x, l...), make([]Answer, len(l))
		for k, d := range l {
			d.Data = slices.Clone(d.Data)
			want[k] = called(y, d)
		}
		for k := range l {
			spoil(l[k].Data)
			l[k] = Deed{Kind: 99, Path: "/spoiled"}
		}
		if !slices.EqualFunc(got, want, alike) {
			t.Fatalf("%+v, want %+v", got, want)
		}
		mustBe(t, x, y)
	}
}

// TestOthersGetBytesOfTheirOwn: one who keeps what he is handed, and uses the room behind it, has nothing of the deed's.
func TestOthersGetBytesOfTheirOwn(t *testing.T) {
	for _, size := range []int{1, 3, 8, 100} {
		whole := append(bytes.Repeat([]byte("x"), size), "spare room"...)
		h := &holder{}
		d := Deed{Kind: Write, Path: "/a", Data: whole[:size]}
		mustAnswer(t, d, Do(h, d), Answer{})
		if string(whole[size:]) != "spare room" {
			t.Fatalf("changed to %q", whole)
		}
		spoil(whole)
		if string(h.bytes) != string(bytes.Repeat([]byte("x"), size)) {
			t.Fatalf("kept as %q", h.bytes)
		}
		spoil(h.bytes)
		h.bytes = []byte("y")
		if whole[0] != '#' {
			t.Fatalf("changed to %q", whole)
		}
	}
}

// P14.2: answers

// TestReadsAnswersAreNewMemory: they are changed behind that, with the room behind, and the files stay, and so do other answers.
func TestReadsAnswersAreNewMemory(t *testing.T) {
	for _, n := range []int{0, 1, 3, 5, 9} {
		for _, at := range []int{0, 1, 4, 5} {
			x := sample(t)
			d := Deed{Kind: Read, Path: "/d/e/f", At: at, N: n}
			first, second := Do(x, d), Do(x, d)
			want := Answer{Data: slices.Clone(second.Data)}
			spoil(first.Data)
			mustAnswer(t, d, second, want)
			mustAnswer(t, d, Do(x, d), want)
			mustBe(t, x, sample(t))
			// Nor is what is done later seen in it.
			Run(x, Deed{Kind: Write, Path: "/d/e/f", Data: []byte("HELLO, and more")}, Deed{Kind: Truncate, Path: "/d/e/f", At: 1})
			mustAnswer(t, d, second, want)
		}
	}
}

func TestListsAnswersAreNewMemory(t *testing.T) {
	x := sample(t)
	for _, p := range []string{"/", "/d", "/d/e", "/empty"} {
		d := Deed{Kind: List, Path: p}
		first, second := Do(x, d), Do(x, d)
		want := Answer{Names: slices.Clone(second.Names)}
		spoilNames(first.Names)
		mustAnswer(t, d, second, want)
		mustAnswer(t, d, Do(x, d), want)
	}
	mustBe(t, x, sample(t))
	d := Deed{Kind: List, Path: "/"}
	got := Do(x, d)
	Run(x, Deed{Kind: Unlink, Path: "/a"}, Deed{Kind: Create, Path: "/b"})
	mustAnswer(t, d, got, Answer{Names: []string{"a", "d", "empty", "z"}})
}

// TestOthersAnswersAreNewMemory: one who answers what he keeps isn't changed by what is done to the answer, nor is the answer by him.
func TestOthersAnswersAreNewMemory(t *testing.T) {
	h := &holder{bytes: []byte("bytes and room")[:5], own: []string{"a", "b", "room"}[:2]}
	read, list := Deed{Kind: Read, Path: "/a", N: 9}, Deed{Kind: List, Path: "/"}
	spoilAnswers(Run(h, read, list))
	if got := string(h.bytes[:14]); got != "bytes and room" {
		t.Errorf("changed to %q", got)
	}
	if got := h.own[:3]; !slices.Equal(got, []string{"a", "b", "room"}) {
		t.Errorf("changed to %q", got)
	}
	l := Run(h, read, list, read, list)
	spoil(h.bytes)
	spoilNames(h.own)
	for k, want := range []Answer{{Data: []byte("bytes")}, {Names: []string{"a", "b"}}, {Data: []byte("bytes")}, {Names: []string{"a", "b"}}} {
		mustAnswer(t, []Deed{read, list}[k%2], l[k], want)
	}
}

// TestRunsAnswersAreNewMemory: one is changed, and neither the files nor another one, and none grows into another one.
func TestRunsAnswersAreNewMemory(t *testing.T) {
	x := sample(t)
	var l []Deed
	for _, p := range samplePaths() {
		l = append(l, Deed{Kind: Read, Path: p, At: 1, N: 9}, Deed{Kind: List, Path: p}, Deed{Kind: Read, Path: p, N: 2})
	}
	first, second := Run(x, l...), Run(x, l...)
	spoilAnswers(first)
	mustBe(t, x, sample(t))
	for k, d := range l {
		want := called(x, d)
		mustAnswer(t, d, second[k], want)
		spoil(second[k].Data)
		spoilNames(second[k].Names)
		second[k].Data = append(second[k].Data, "grown"...)
		second[k].Names = append(second[k].Names, "grown")
	}
	mustBe(t, x, sample(t))
}

// TestNothingIsKept: what was done elsewhere, or erred, is seen in no answer.
func TestNothingIsKept(t *testing.T) {
	x, y := sample(t), tree.New()
	for range 3 {
		for _, k := range append(kinds(), -1, 8) {
			Do(y, Deed{Kind: k, Path: "/d", At: 1, N: 2, Data: []byte("other")})
			Do(x, Deed{Kind: k, Path: "no path"})
		}
		d := Deed{Kind: Read, Path: "/a", N: 9}
		mustAnswer(t, d, Do(x, d), Answer{Data: []byte("abc")})
		mustBe(t, x, sample(t))
	}
}
