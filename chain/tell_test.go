package chain

import (
	"math"
	"slices"
	"testing"

	"cantle/api"
	"cantle/run"
	"cantle/slot"
)

// placed is a block, and the place of the part that has it.
type placed struct{ part, block int }

// placesOf are a chain's blocks by their meaning, one by one.
func placesOf(runs []run.Run) []placed {
	var l []placed
	for k, r := range runs {
		for b := r.Start; b < r.Start+r.Count; b++ {
			l = append(l, placed{k, b})
		}
	}
	return l
}

// mustTell fails, unless a chain of these runs tells what they have.
func mustTell(t *testing.T, c Chain, runs []run.Run) {
	t.Helper()
	want := placesOf(runs)
	if got := c.Count(); got != len(want) {
		t.Fatalf("of %v: Count: %d", runs, got)
	}
	var blocks []int
	for k, p := range want {
		blocks = append(blocks, p.block)
		if part, block := c.Find(k); part != p.part || block != p.block {
			t.Fatalf("of %v: Find(%d): %d, %d, want %v", runs, k, part, block, p)
		}
	}
	if got := c.Blocks(); !slices.Equal(got, blocks) {
		t.Fatalf("of %v: Blocks: %v", runs, got)
	}
	if got := c.Runs(); !slices.Equal(got, runs) {
		t.Fatalf("of %v: Runs: %v", runs, got)
	}
	for _, k := range noFind(len(want)) {
		if part, block := c.Find(k); part != -1 || block != -1 {
			t.Fatalf("of %v: Find(%d): %d, %d", runs, k, part, block)
		}
	}
}

// noFind are numbers of none of so many blocks.
func noFind(count int) []int {
	return []int{
		-1, -2, -count, -count - 1, count, count + 1, 2*count + 1, 65534 + count, math.MaxInt, math.MaxInt - 1, math.MinInt, math.MinInt + 1, math.MaxInt32 + count, math.MinInt32, 1 << 32, 1<<32 + count, -1 << 32, 1 << 62, -1 << 62,
	}
}

// P16.2

func TestTellOfAnEmptyChain(t *testing.T) {
	read, e := Read(opened(t, blank(t, 8)), -1)
	if e != api.OK {
		t.Fatal(e)
	}
	for _, c := range []Chain{{}, {Slots: []int{}, Parts: []slot.Slot{}}, read} {
		mustTell(t, c, nil)
		if part, block := c.Find(0); part != -1 || block != -1 {
			t.Error(part, block)
		}
	}
}

func TestTellOfOnePart(t *testing.T) {
	for _, r := range []run.Run{{Start: 0, Count: 1}, {Start: 7, Count: 1}, {Start: 0, Count: 5}, {Start: 3, Count: 64}, {Start: 65533, Count: 1}, {Start: 65000, Count: 534}, {Start: 0, Count: 65534}} {
		mustTell(t, chainOf([]int{4}, []run.Run{r}), []run.Run{r})
	}
}

func TestTellOfSeveralParts(t *testing.T) {
	for _, runs := range [][]run.Run{
		{{Start: 0, Count: 1}, {Start: 1, Count: 1}},
		{{Start: 5, Count: 2}, {Start: 1, Count: 1}},
		{{Start: 1, Count: 1}, {Start: 5, Count: 2}},
		{{Start: 3, Count: 3}, {Start: 0, Count: 3}, {Start: 6, Count: 3}},
		{{Start: 9, Count: 1}, {Start: 7, Count: 1}, {Start: 5, Count: 1}, {Start: 0, Count: 4}},
		{{Start: 3, Count: 3}, {Start: 3, Count: 3}},
		{{Start: 0, Count: 65534}, {Start: 65533, Count: 1}, {Start: 0, Count: 65534}},
	} {
		mustTell(t, chainOf([]int{4, 2, 9, 0}[:len(runs)], runs), runs)
	}
}

func TestTellOfAnyParts(t *testing.T) {
	r := chance(13)
	for range 500 {
		n := 1 + r.IntN(50)
		slots, runs := anyChain(r, n, r.IntN(n+1))
		mustTell(t, chainOf(slots, runs), runs)
	}
}

func TestTellOfAChainThatWasRead(t *testing.T) {
	r := chance(14)
	for _, n := range []int{1, 2, 8, 9, 65} {
		d := full(t, n)
		v := opened(t, d)
		for count := 1; count <= n; count++ {
			slots, runs := anyChain(r, n, count)
			if e := Write(v, slots, runs...); e != api.OK {
				t.Fatal(e)
			}
			c, e := Read(v, slots[0])
			if e != api.OK {
				t.Fatal(e)
			}
			mustTell(t, c, runs)
		}
	}
}

func TestFindAtTheEndsOfEachPart(t *testing.T) {
	c := chainOf([]int{4, 2, 9}, []run.Run{{Start: 60000, Count: 5000}, {Start: 7, Count: 1}, {Start: 100, Count: 300}})
	for _, f := range []struct{ k, part, block int }{
		{-1, -1, -1}, {0, 0, 60000}, {1, 0, 60001}, {4999, 0, 64999}, {5000, 1, 7}, {5001, 2, 100}, {5300, 2, 399}, {5301, -1, -1}, {5302, -1, -1}, {math.MaxInt, -1, -1}, {math.MinInt, -1, -1},
	} {
		if part, block := c.Find(f.k); part != f.part || block != f.block {
			t.Errorf("Find(%d): %d, %d", f.k, part, block)
		}
	}
}

// A Chain may be made by hand: of parts that are no slots it tells no blocks, and of any numbers it tells something.
func TestTellOfPartsThatMayNotBe(t *testing.T) {
	none := []slot.Slot{
		{}, {Start: 5, Count: 0, Next: -1}, {Start: 5, Count: -3, Next: -1}, {Start: -1, Count: 2, Next: -1}, {Start: 65534, Count: 1, Next: -1}, {Start: 0, Count: 65535, Next: -1},
		{Start: 0, Count: math.MaxInt, Next: -1}, {Start: math.MaxInt, Count: math.MaxInt, Next: -1}, {Start: math.MinInt, Count: math.MinInt, Next: math.MinInt}, {Start: 1, Count: math.MinInt, Next: -1},
	}
	for _, p := range none {
		c := Chain{Parts: []slot.Slot{p, {Start: 3, Count: 2, Next: -1}, p, {Start: 9, Count: 1, Next: -1}, p, p}}
		if c.Count() != 3 || !slices.Equal(c.Blocks(), []int{3, 4, 9}) {
			t.Error(p, c.Count(), c.Blocks())
		}
		for k, want := range []placed{{1, 3}, {1, 4}, {3, 9}, {-1, -1}, {-1, -1}} {
			if part, block := c.Find(k); part != want.part || block != want.block {
				t.Error(p, k, part, block)
			}
		}
		r := run.Run{Start: p.Start, Count: p.Count}
		if !slices.Equal(c.Runs(), []run.Run{r, {Start: 3, Count: 2}, r, {Start: 9, Count: 1}, r, r}) {
			t.Error(p, c.Runs())
		}
	}
}

// Which blocks there are hangs on the parts, not on the slots' numbers.
func TestTellWithoutSlots(t *testing.T) {
	runs := []run.Run{{Start: 3, Count: 2}, {Start: 9, Count: 1}}
	c := chainOf([]int{1, 0}, runs)
	for _, slots := range [][]int{nil, {1}, {-5, 70000}, {1, 0, 2, 3}} {
		mustTell(t, Chain{Slots: slots, Parts: c.Parts}, runs)
	}
	mustTell(t, Chain{Slots: []int{1, 0}}, nil)
}

// Example

func TestExample(t *testing.T) {
	v := opened(t, blank(t, 8))
	if e := Write(v, []int{2, 0}, run.Run{Start: 5, Count: 2}, run.Run{Start: 1, Count: 1}); e != api.OK {
		t.Fatal(e)
	}
	c, e := Read(v, 2)
	if e != api.OK || !slices.Equal(c.Blocks(), []int{5, 6, 1}) || c.Count() != 3 || !slices.Equal(c.Slots, []int{2, 0}) {
		t.Error(c, e)
	}
}
