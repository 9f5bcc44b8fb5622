package chain

import (
	"slices"
	"testing"

	"cantle/api"
	"cantle/run"
	"cantle/slot"
)

// shelf is what memory tests are of: a chain's slots and runs, each with spare room behind.
func shelf() ([]int, []run.Run) {
	slots := []int{6, 1, 3, 70, 71, 72}
	runs := []run.Run{{Start: 0, Count: 1}, {Start: 4, Count: 3}, {Start: 2, Count: 2}, {Start: 80, Count: 81}, {Start: 82, Count: 83}}
	return slots[:3], runs[:3]
}

// spoil makes all of a list, its spare room too, something else.
func spoil[T any](l []T, x T) {
	l = l[:cap(l)]
	for k := range l {
		l[k] = x
	}
}

// P16.3: what is handed in

func TestWhatIsHandedInIsntChanged(t *testing.T) {
	for _, fuse := range []int{0, 1, 2, 3, 4, 5, 6, 100} {
		slots, runs := shelf()
		d := full(t, 8)
		d.Arm(fuse)
		Write(opened(t, d), slots, runs...)
		wantSlots, wantRuns := shelf()
		if !slices.Equal(slots[:cap(slots)], wantSlots[:cap(wantSlots)]) || !slices.Equal(runs[:cap(runs)], wantRuns[:cap(wantRuns)]) {
			t.Errorf("of %d steps: %v, %v", fuse, slots[:cap(slots)], runs[:cap(runs)])
		}
	}
}

func TestWhatIsRefusedIsntChanged(t *testing.T) {
	for _, length := range []int{4, 5} {
		slots, runs := shelf()
		if e := Write(opened(t, full(t, 8)), slots[:length], runs[:4]...); e != api.ErrArg {
			t.Error(e)
		}
		wantSlots, wantRuns := shelf()
		if !slices.Equal(slots[:cap(slots)], wantSlots[:cap(wantSlots)]) || !slices.Equal(runs[:cap(runs)], wantRuns[:cap(wantRuns)]) {
			t.Errorf("%v, %v", slots[:cap(slots)], runs[:cap(runs)])
		}
	}
}

func TestWhatIsHandedInIsntKept(t *testing.T) {
	slots, runs := shelf()
	want := chainOf(slots, runs)
	d := full(t, 8)
	v := opened(t, d)
	if e := Write(v, slots, runs...); e != api.OK {
		t.Fatal(e)
	}
	words := d.Words()
	spoil(slots, 5)
	spoil(runs, run.Run{Start: 7, Count: 1})
	mustRead(t, d, 6, want)
	if c, e := Read(v, 6); e != api.OK || !same(c, want) || !slices.Equal(d.Words(), words) {
		t.Error(c, e)
	}
}

// A Chain's own rows are handed in as the slots of a Write, and are still its own behind that.
func TestAChainsRowsArentKeptOrChanged(t *testing.T) {
	slots, runs := shelf()
	want := chainOf(slots, runs)
	d := put(full(t, 8), wordsOf(t, want))
	v := opened(t, d)
	c, e := Read(v, 6)
	if e != api.OK {
		t.Fatal(e)
	}
	if e := Write(v, c.Slots, c.Runs()...); e != api.OK || !same(c, want) {
		t.Fatal(c, e)
	}
	spoil(c.Slots, 5)
	spoil(c.Parts, slot.Slot{Start: 7, Count: 1, Next: 2})
	mustRead(t, d, 6, want)
}

func TestTellingChangesAndKeepsNothing(t *testing.T) {
	slots, runs := shelf()
	whole := chainOf([]int{6, 1, 3, 2, 5}, append(runs, run.Run{Start: 60, Count: 2}, run.Run{Start: 70, Count: 7}))
	c := Chain{Slots: whole.Slots[:3], Parts: whole.Parts[:3]}
	sameSlots, sameParts := slices.Clone(whole.Slots), slices.Clone(whole.Parts)
	blocks, told := c.Blocks(), c.Runs()
	c.Count()
	c.Find(4)
	c.Find(40)
	if !slices.Equal(whole.Slots, sameSlots) || !slices.Equal(whole.Parts, sameParts) || len(c.Slots) != len(slots) || len(c.Parts) != len(slots) {
		t.Error("it changed")
	}
	spoil(c.Slots, 5)
	spoil(c.Parts, slot.Slot{Start: 7, Count: 1, Next: 2})
	if !slices.Equal(blocks, []int{0, 4, 5, 6, 2, 3}) || !slices.Equal(told, runs[:3]) {
		t.Error("answers changed with it", blocks, told)
	}
	// What it tells hangs on its rows as they are then.
	if c.Count() != 3 || !slices.Equal(c.Blocks(), []int{7, 7, 7}) || !slices.Equal(c.Runs(), []run.Run{{Start: 7, Count: 1}, {Start: 7, Count: 1}, {Start: 7, Count: 1}}) {
		t.Error("it kept something", c.Count(), c.Blocks(), c.Runs())
	}
	if part, block := c.Find(2); part != 2 || block != 7 {
		t.Error(part, block)
	}
}

// P16.3: answers

func TestAReadsAnswerIsNewMemory(t *testing.T) {
	slots, runs := shelf()
	want := chainOf(slots, runs)
	d := put(full(t, 8), wordsOf(t, want))
	words := d.Words()
	v := opened(t, d)
	a, _ := Read(v, 6)
	b, _ := Read(v, 6)
	part, _ := Read(v, 1)
	spoil(a.Slots, 5)
	spoil(a.Parts, slot.Slot{Start: 7, Count: 1, Next: 2})
	c, e := Read(v, 6)
	if e != api.OK || !same(b, want) || !same(c, want) || !same(part, Chain{want.Slots[1:], want.Parts[1:]}) {
		t.Error("answers share their memory", b, c, part, e)
	}
	if !slices.Equal(d.Words(), words) {
		t.Error("the device changed")
	}
}

func TestBlocksAndRunsAnswersAreNewMemory(t *testing.T) {
	slots, runs := shelf()
	c := chainOf(slots, runs)
	blocks, told := c.Blocks(), c.Runs()
	also, alsoTold := c.Blocks(), c.Runs()
	spoil(blocks, 77)
	spoil(told, run.Run{Start: 7, Count: 7})
	if !slices.Equal(also, []int{0, 4, 5, 6, 2, 3}) || !slices.Equal(alsoTold, runs) {
		t.Error("answers share their memory", also, alsoTold)
	}
	if !slices.Equal(c.Blocks(), also) || !slices.Equal(c.Runs(), runs) || !same(c, chainOf(slots, runs)) {
		t.Error("it changed", c)
	}
}

// What was read stays, whatever is written behind that.
func TestWhatWasReadStays(t *testing.T) {
	slots, runs := shelf()
	want := chainOf(slots, runs)
	v := opened(t, put(full(t, 8), wordsOf(t, want)))
	c, e := Read(v, 6)
	if e != api.OK {
		t.Fatal(e)
	}
	if e := Write(v, []int{3, 1, 6}, run.Run{Start: 0, Count: 8}, run.Run{Start: 1, Count: 7}, run.Run{Start: 2, Count: 1}); e != api.OK {
		t.Fatal(e)
	}
	if !same(c, want) || !slices.Equal(c.Blocks(), []int{0, 4, 5, 6, 2, 3}) {
		t.Error(c)
	}
}
