package pm

import (
	"math"
	"slices"
	"testing"

	"cantle/api"
)

// noWords are numbers of words, and of lines, that a device of 9 words hasn't.
var noWords = []int{-1, -8, 9, 16, 1 << 32, math.MaxInt, math.MinInt, math.MaxInt/8 + 1, math.MinInt / 8}

// must fails, unless all of these steps were done.
func must(t *testing.T, done ...bool) {
	t.Helper()
	for k, ok := range done {
		if !ok {
			t.Fatalf("step %d wasn't done", k)
		}
	}
}

// mustNot fails, if one of these steps was done.
func mustNot(t *testing.T, done ...bool) {
	t.Helper()
	for k, ok := range done {
		if ok {
			t.Fatalf("step %d was done", k)
		}
	}
}

// may fails, unless a word may hold just these values, in this order, and the first one is its lasting one.
func may(t *testing.T, d *Device, w int, want ...uint64) {
	t.Helper()
	if got := d.May(w); !slices.Equal(got, want) {
		t.Fatalf("May(%d): %v, want %v", w, got, want)
	}
	if got := d.Lasting(w); got != want[0] {
		t.Fatalf("Lasting(%d): %d, want %d", w, got, want[0])
	}
}

// P1.1

func TestNewHasSoManyNoughts(t *testing.T) {
	for _, c := range []struct{ words, want int }{
		{0, 0}, {1, 1}, {9, 9}, {-1, 0}, {math.MinInt, 0},
		{api.MaxWords - 1, api.MaxWords - 1}, {api.MaxWords, api.MaxWords}, {api.MaxWords + 1, api.MaxWords}, {math.MaxInt, api.MaxWords},
	} {
		d := New(c.words)
		if d.Len() != c.want || len(d.Words()) != c.want {
			t.Errorf("New(%d) has %d words", c.words, d.Len())
		}
		if slices.ContainsFunc(d.Words(), func(x uint64) bool { return x != 0 }) {
			t.Errorf("New(%d) has a word that isn't 0", c.words)
		}
		if d.Steps() != 0 || d.Stores() != 0 || d.Down() {
			t.Errorf("New(%d) did steps, or is down", c.words)
		}
	}
}

func TestOfHasTheseWordsLasting(t *testing.T) {
	l := []uint64{7, 0, math.MaxUint64}
	d := Of(l)
	if d.Len() != 3 || !slices.Equal(d.Words(), l) {
		t.Fatal(d.Words())
	}
	for w, x := range l {
		may(t, d, w, x)
	}
	if d.Crash(1, 1, 1) != 0 || !slices.Equal(d.Words(), l) {
		t.Error("a crash changed words that last")
	}
	if Of(nil).Len() != 0 || Of([]uint64{}).Len() != 0 {
		t.Error("of none there are some")
	}
}

func TestOfLeavesOutWhatIsTooMuch(t *testing.T) {
	l := make([]uint64, api.MaxWords+2)
	l[api.MaxWords-1], l[api.MaxWords] = 5, 6
	d := Of(l)
	if d.Len() != api.MaxWords || d.Load(api.MaxWords-1) != 5 || d.Load(api.MaxWords) != 0 {
		t.Error(d.Len(), d.Load(api.MaxWords-1), d.Load(api.MaxWords))
	}
	if Of(l[:api.MaxWords]).Len() != api.MaxWords {
		t.Error("the last word that may be was left out")
	}
}

func TestLastLineOfTheGreatestDevice(t *testing.T) {
	d := New(api.MaxWords)
	last := api.MaxWords - 1
	must(t, d.Store(last, 3), d.Flush(last/api.Line), d.Fence())
	may(t, d, last, 3)
	mustNot(t, d.Flush(last/api.Line+1), d.Store(last+1, 1))
}

func TestWordsThatThereArent(t *testing.T) {
	d := Of([]uint64{1, 2, 3, 4, 5, 6, 7, 8, 9})
	must(t, d.Store(8, 90))
	d.Arm(1)
	for _, w := range noWords {
		if d.Load(w) != 0 || d.Lasting(w) != 0 || len(d.May(w)) != 0 || d.Store(w, 1) {
			t.Errorf("there is a word %d", w)
		}
		if d.Flush(w) {
			t.Errorf("there is a line %d", w)
		}
	}
	mustNot(t, d.Flush(2))
	if d.Down() || d.Steps() != 1 || d.Stores() != 1 {
		t.Error("a step that wasn't done was counted, or burnt the fuse")
	}
	must(t, d.Flush(1))
}

func TestNoWordsAtAll(t *testing.T) {
	d := New(0)
	mustNot(t, d.Store(0, 1), d.Flush(0))
	must(t, d.Fence())
	if d.Steps() != 1 || d.Crash(1) != 0 || len(d.Words()) != 0 || len(d.May(0)) != 0 {
		t.Error("a device without words has some")
	}
}

func TestStoreIsSeenAtOnceAndMayBeLost(t *testing.T) {
	d := New(2)
	must(t, d.Store(0, 5), d.Store(0, 6))
	if d.Load(0) != 6 || d.Load(1) != 0 {
		t.Error(d.Words())
	}
	may(t, d, 0, 0, 5, 6)
	may(t, d, 1, 0)
	must(t, d.Flush(0))
	may(t, d, 0, 0, 5, 6)
	must(t, d.Fence())
	may(t, d, 0, 6)
}

func TestEachStoreIsOneAlsoOfWhatIsThere(t *testing.T) {
	d := New(1)
	must(t, d.Store(0, 0))
	may(t, d, 0, 0, 0)
	must(t, d.Store(0, 4), d.Store(0, 4), d.Store(0, 0))
	may(t, d, 0, 0, 0, 4, 4, 0)
	if d.Stores() != 4 || d.Crash(3) != 1 || d.Load(0) != 4 {
		t.Error(d.Stores(), d.Load(0))
	}
}

func TestFenceAloneAndFlushAlone(t *testing.T) {
	d := New(1)
	must(t, d.Store(0, 5), d.Fence())
	may(t, d, 0, 0, 5)
	must(t, d.Flush(0), d.Store(0, 6), d.Fence())
	may(t, d, 0, 5, 6)
	must(t, d.Fence())
	may(t, d, 0, 5, 6)
}

func TestFlushAheadOfTheStore(t *testing.T) {
	d := New(1)
	must(t, d.Flush(0), d.Store(0, 5), d.Fence())
	may(t, d, 0, 0, 5)
	must(t, d.Flush(0), d.Fence())
	may(t, d, 0, 5)
}

func TestTheLastFlushCounts(t *testing.T) {
	d := New(1)
	must(t, d.Store(0, 1), d.Flush(0), d.Store(0, 2), d.Store(0, 3), d.Flush(0), d.Store(0, 4), d.Store(0, 5), d.Fence())
	may(t, d, 0, 3, 4, 5)
	must(t, d.Store(0, 6), d.Fence())
	may(t, d, 0, 3, 4, 5, 6)
	must(t, d.Flush(0), d.Flush(0), d.Fence())
	may(t, d, 0, 6)
}

func TestFlushIsOfItsLineAlone(t *testing.T) {
	d := New(17)
	for _, w := range []int{7, 8, 15, 16} {
		must(t, d.Store(w, uint64(w)))
	}
	must(t, d.Flush(1), d.Fence())
	may(t, d, 7, 0, 7)
	may(t, d, 8, 8)
	may(t, d, 15, 15)
	may(t, d, 16, 0, 16)
	must(t, d.Flush(2), d.Flush(0), d.Fence())
	may(t, d, 7, 7)
	may(t, d, 16, 16)
}

// P1.2

func TestCrashChoosesWordByWord(t *testing.T) {
	begin := func() *Device {
		d := Of([]uint64{10, 20, 30, 40})
		must(t, d.Store(3, 41), d.Store(0, 11), d.Store(0, 12), d.Store(2, 31))
		return d
	}
	for _, c := range []struct {
		choices []byte
		want    []uint64
	}{
		{nil, []uint64{10, 20, 30, 40}},
		{[]byte{1}, []uint64{11, 20, 30, 40}},
		{[]byte{2, 1}, []uint64{12, 20, 31, 40}},
		{[]byte{0, 0, 1}, []uint64{10, 20, 30, 41}},
		{[]byte{3, 2, 3}, []uint64{10, 20, 30, 41}},
		{[]byte{255, 255, 254, 1, 1}, []uint64{10, 20, 31, 40}},
		{[]byte{1, 1, 1, 1}, []uint64{11, 20, 31, 41}},
	} {
		d := begin()
		if n := d.Crash(c.choices...); n != 3 || !slices.Equal(d.Words(), c.want) {
			t.Errorf("Crash(%v): %d, %v, want %v", c.choices, n, d.Words(), c.want)
		}
		for w, x := range c.want {
			may(t, d, w, x)
		}
		if d.Crash(1, 1, 1) != 0 || !slices.Equal(d.Words(), c.want) {
			t.Errorf("behind Crash(%v) something is pending", c.choices)
		}
		if d.Steps() != 4 || d.Stores() != 4 {
			t.Error("a crash is no step, and counts go on")
		}
	}
}

func TestCrashOfMoreValuesThanAByteSays(t *testing.T) {
	d := New(1)
	for x := range uint64(300) {
		must(t, d.Store(0, x+1))
	}
	c := d.Copy()
	if d.Crash(255) != 1 || d.Load(0) != 255 {
		t.Error(d.Load(0))
	}
	must(t, c.Flush(0), c.Fence())
	if c.Crash(255) != 0 || c.Load(0) != 300 {
		t.Error(c.Load(0))
	}
}

func TestCrashForgetsFlushes(t *testing.T) {
	d := New(1)
	must(t, d.Store(0, 5), d.Flush(0))
	if d.Crash(0) != 1 || d.Load(0) != 0 {
		t.Error(d.Words())
	}
	must(t, d.Store(0, 6), d.Store(0, 7), d.Fence())
	may(t, d, 0, 0, 6, 7)
}

func TestFuse(t *testing.T) {
	d := New(9)
	d.Arm(3)
	must(t, d.Store(0, 1), !d.Down(), d.Flush(0), !d.Down(), d.Fence(), d.Down())
	mustNot(t, d.Store(0, 2), d.Flush(0), d.Fence())
	if d.Steps() != 3 || d.Stores() != 1 || d.Load(0) != 1 {
		t.Error("a device that is down did a step")
	}
	may(t, d, 0, 1)
	if d.Crash() != 0 || d.Down() {
		t.Error("behind a crash it isn't up")
	}
	for range 9 {
		must(t, d.Store(1, 1), d.Fence())
	}
	if d.Steps() != 21 || d.Stores() != 10 || d.Down() {
		t.Error("the crash left the fuse")
	}
}

func TestFuseCutsOffBetweenFlushAndFence(t *testing.T) {
	d := New(1)
	d.Arm(2)
	must(t, d.Store(0, 8), d.Flush(0), d.Down())
	mustNot(t, d.Fence(), d.Store(0, 9))
	may(t, d, 0, 0, 8)
	if d.Crash(1) != 1 || d.Load(0) != 8 || d.Lasting(0) != 8 {
		t.Error(d.Words())
	}
}

func TestFuseAtItsEnds(t *testing.T) {
	for _, n := range []int{0, -1, math.MinInt} {
		d := New(1)
		d.Arm(n)
		if !d.Down() || d.Store(0, 1) || d.Flush(0) || d.Fence() || d.Steps() != 0 || d.Load(0) != 0 {
			t.Errorf("Arm(%d) leaves steps", n)
		}
	}
	d := New(1)
	d.Arm(math.MaxInt)
	must(t, d.Store(0, 1), d.Flush(0), d.Fence(), !d.Down())
}

func TestFuseTakesThePlaceOfAnother(t *testing.T) {
	d := New(1)
	d.Arm(1)
	d.Arm(2)
	must(t, d.Fence(), d.Fence(), d.Down())
	d.Arm(1)
	must(t, !d.Down(), d.Fence(), d.Down())
	e := New(1)
	e.Arm(5)
	must(t, e.Fence())
	e.Arm(0)
	mustNot(t, e.Fence())
}

func TestStepsAndStoresCountWhatWasDone(t *testing.T) {
	d := New(1)
	mustNot(t, d.Store(1, 1), d.Flush(1))
	must(t, d.Store(0, 0), d.Flush(0), d.Flush(0), d.Fence(), d.Fence(), d.Store(0, 1))
	if d.Steps() != 6 || d.Stores() != 2 {
		t.Error(d.Steps(), d.Stores())
	}
	d.Arm(0)
	mustNot(t, d.Store(0, 2), d.Fence())
	d.Crash()
	if d.Steps() != 6 || d.Stores() != 2 {
		t.Error(d.Steps(), d.Stores())
	}
}

func TestCopyIsTheSameAndApart(t *testing.T) {
	d := New(9)
	must(t, d.Store(0, 1), d.Store(0, 2), d.Flush(0), d.Store(8, 3))
	d.Arm(4)
	c := d.Copy()
	if !d.Same(c) || c.Len() != 9 || c.Steps() != 4 || c.Stores() != 3 || c.Down() {
		t.Fatal("the copy is another one")
	}
	may(t, c, 0, 0, 1, 2)
	may(t, c, 8, 0, 3)
	must(t, d.Store(0, 70), d.Store(8, 80))
	must(t, c.Store(0, 7), c.Store(0, 9))
	may(t, d, 0, 0, 1, 2, 70)
	may(t, c, 0, 0, 1, 2, 7, 9)
	may(t, c, 8, 0, 3)
	must(t, c.Fence(), c.Flush(1), c.Down())
	may(t, c, 0, 2, 7, 9)
	must(t, !d.Down(), d.Flush(1), d.Fence(), d.Down())
	may(t, d, 0, 2, 70)
	may(t, d, 8, 80)
	if d.Steps() != 8 || d.Stores() != 5 || c.Steps() != 8 || c.Stores() != 5 {
		t.Error("counts of copies hang together")
	}
	if e := c.Copy(); !e.Down() || e.Crash(2, 1) != 2 || e.Load(0) != 9 || e.Load(8) != 3 || !c.Down() || c.Load(8) != 3 {
		t.Error("a copy of one that is down", e.Words())
	}
	may(t, c, 8, 0, 3)
}

func TestSame(t *testing.T) {
	var none *Device
	d := Of([]uint64{1, 2})
	e := New(2)
	if !none.Same(nil) || none.Same(d) || d.Same(nil) || none.Same(New(0)) || New(0).Same(nil) {
		t.Error("of nil")
	}
	if d.Same(e) || d.Same(Of([]uint64{1})) || d.Same(Of([]uint64{1, 2, 0})) || !d.Same(d) || !New(0).Same(Of(nil)) {
		t.Error("of words")
	}
	must(t, e.Store(0, 1), e.Store(1, 2))
	e.Arm(0)
	if !d.Same(e) || !e.Same(d) {
		t.Error("more than the words as they are seen was held against each other")
	}
}

// P1.3

func TestFlushedAndFencedHoldsBehindEachCrash(t *testing.T) {
	for choice := range 256 {
		d := New(3)
		must(t, d.Store(0, 1), d.Store(0, 2), d.Store(2, 9), d.Flush(0), d.Fence(), d.Store(1, 4))
		d.Crash(byte(choice), byte(choice), byte(choice))
		if d.Load(0) != 2 || d.Load(2) != 9 || d.Lasting(0) != 2 {
			t.Fatalf("choice %d: %v", choice, d.Words())
		}
		d.Crash(byte(choice))
		if d.Load(0) != 2 || d.Load(2) != 9 {
			t.Fatalf("choice %d, again: %v", choice, d.Words())
		}
	}
}

func TestWhatIsHandedInIsNeitherChangedNorKept(t *testing.T) {
	room := []uint64{1, 2, 3, 4}
	d := Of(room[:2])
	must(t, d.Store(0, 5), d.Store(1, 6), d.Flush(0), d.Fence())
	if !slices.Equal(room, []uint64{1, 2, 3, 4}) {
		t.Error("changed", room)
	}
	room[0] = 99
	if d.Load(0) != 5 {
		t.Error("kept")
	}
	must(t, d.Store(0, 7), d.Store(1, 8))
	choices := []byte{3, 3, 3}
	d.Crash(choices...)
	if !slices.Equal(choices, []byte{3, 3, 3}) {
		t.Error("changed", choices)
	}
}

func TestAnswersAreNewMemory(t *testing.T) {
	d := New(2)
	must(t, d.Store(0, 1), d.Store(0, 2))
	l := d.May(0)
	clear(l)
	_ = append(l, 9)
	clear(d.May(1))
	words := d.Words()
	clear(words)
	_ = append(words, 9)
	may(t, d, 0, 0, 1, 2)
	if !slices.Equal(d.Words(), []uint64{2, 0}) {
		t.Error(d.Words())
	}
	kept, seen := d.May(0), d.Words()
	must(t, d.Store(0, 3), d.Flush(0), d.Fence(), d.Store(0, 4))
	d.Crash()
	if !slices.Equal(kept, []uint64{0, 1, 2}) || !slices.Equal(seen, []uint64{2, 0}) {
		t.Error("an answer changed afterwards", kept, seen)
	}
}
