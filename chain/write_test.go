package chain

import (
	"math"
	"slices"
	"testing"

	"cantle/api"
	"cantle/pm"
	"cantle/run"
)

// walk does the steps of a Write by its meaning, as far as the device does them: of each slot, the last one first, the store of its word, and the flush of its line.
func walk(t *testing.T, d *pm.Device, c Chain) {
	t.Helper()
	words := wordsOf(t, c)
	for k := len(c.Slots) - 1; k >= 0; k-- {
		w := slotsAt + c.Slots[k]
		d.Store(w, words[c.Slots[k]])
		d.Flush(w / 8)
	}
}

// mustWrite fails, unless a Write does just its steps, and ends, on a device that goes down at any of them, there.
func mustWrite(t *testing.T, d *pm.Device, slots []int, runs []run.Run) {
	t.Helper()
	c := chainOf(slots, runs)
	try := func(got, want *pm.Device, wantE api.Errno) {
		t.Helper()
		if e := Write(opened(t, got), slots, runs...); e != wantE {
			t.Fatalf("slots %v, runs %v: %d, want %d", slots, runs, e, wantE)
		}
		walk(t, want, c)
		mustBeAlike(t, got, want)
	}
	try(d.Copy(), d.Copy(), api.OK)
	for fuse := range 2*len(slots) + 2 {
		got, want := d.Copy(), d.Copy()
		got.Arm(fuse)
		want.Arm(fuse)
		if fuse < 2*len(slots) {
			try(got, want, api.ErrDown)
		} else {
			try(got, want, api.OK)
		}
	}
}

// mustRefuse fails, unless a Write answers ErrArg, also of a device that is down or goes down soon, and does nothing.
func mustRefuse(t *testing.T, d *pm.Device, slots []int, runs ...run.Run) {
	t.Helper()
	for fuse := range 4 {
		got := d.Copy()
		if fuse > 0 {
			got.Arm(fuse - 1)
		}
		want := got.Copy()
		if e := Write(opened(t, got), slots, runs...); e != api.ErrArg {
			t.Fatalf("slots %v, runs %v: %d", slots[:min(10, len(slots))], runs[:min(10, len(runs))], e)
		}
		if got.Steps() != want.Steps() || got.Down() != want.Down() || !got.Same(want) {
			t.Fatalf("slots %v, runs %v: %d steps", slots[:min(10, len(slots))], runs[:min(10, len(runs))], got.Steps()-want.Steps())
		}
	}
}

// P16.1: Write

func TestWriteOfNoSlots(t *testing.T) {
	for _, n := range few() {
		mustWrite(t, full(t, n), nil, nil)
		mustWrite(t, blank(t, n), []int{}, []run.Run{})
	}
}

func TestWriteOfOneSlot(t *testing.T) {
	for _, n := range few() {
		for s := range n {
			for _, r := range []run.Run{{Start: 0, Count: 1}, {Start: 0, Count: n}, {Start: n - 1, Count: 1}, {Start: n / 2, Count: n - n/2}} {
				mustWrite(t, full(t, n), []int{s}, []run.Run{r})
			}
		}
	}
}

func TestWriteOfSeveralSlots(t *testing.T) {
	r := chance(5)
	for _, n := range few() {
		for count := 2; count <= n; count++ {
			slots, runs := anyChain(r, n, count)
			mustWrite(t, full(t, n), slots, runs)
			mustWrite(t, blank(t, n), slots, runs)
		}
	}
}

func TestWriteOfSlotsInOrder(t *testing.T) {
	r := chance(6)
	for _, n := range few()[1:] {
		_, runs := anyChain(r, n, n)
		mustWrite(t, full(t, n), rising(n), runs)
		mustWrite(t, full(t, n), falling(n), runs)
	}
}

// Where its words are so already they are written all the same.
func TestWriteOfWhatIsSoAlready(t *testing.T) {
	c := chainOf([]int{4, 0, 8}, []run.Run{{Start: 3, Count: 2}, {Start: 0, Count: 9}, {Start: 8, Count: 1}})
	mustWrite(t, put(full(t, 9), wordsOf(t, c)), c.Slots, c.Runs())
}

// Two runs may have one block: whose it is is asked of claims.
func TestWriteOfRunsThatOverlap(t *testing.T) {
	mustWrite(t, full(t, 9), []int{4, 0, 8}, []run.Run{{Start: 3, Count: 2}, {Start: 3, Count: 2}, {Start: 0, Count: 9}})
}

// The head's word comes last, so that no slot that is written leads to one that isn't.
func TestWriteOfTheLastOneFirst(t *testing.T) {
	slots, runs := []int{6, 1, 3}, []run.Run{{Start: 0, Count: 1}, {Start: 4, Count: 3}, {Start: 2, Count: 2}}
	whole := chainOf(slots, runs)
	for fuse := range 7 {
		d := blank(t, 8)
		d.Arm(fuse)
		v := opened(t, d)
		if e := Write(v, slots, runs...); (e == api.OK) != (fuse == 6) || e != api.OK && e != api.ErrDown {
			t.Fatalf("of %d steps: %d", fuse, e)
		}
		written := (fuse + 1) / 2
		for k, s := range slots {
			if k < 3-written {
				mustNotRead(t, d, s)
			} else {
				mustRead(t, d, s, Chain{whole.Slots[k:], whole.Parts[k:]})
			}
		}
	}
}

func TestWriteIsntFenced(t *testing.T) {
	d := blank(t, 8)
	v := opened(t, d)
	if e := Write(v, []int{6, 1}, run.Run{Start: 0, Count: 1}, run.Run{Start: 4, Count: 3}); e != api.OK {
		t.Fatal(e)
	}
	if n := d.Copy().Crash(); n != 2 {
		t.Errorf("%d words don't last", n)
	}
	if e := v.Sync(); e != api.OK {
		t.Fatal(e)
	}
	if n := d.Crash(); n != 0 {
		t.Errorf("behind a Sync %d words don't last", n)
	}
	mustRead(t, d, 6, chainOf([]int{6, 1}, []run.Run{{Start: 0, Count: 1}, {Start: 4, Count: 3}}))
}

func TestWriteOfADeviceThatIsDown(t *testing.T) {
	d := full(t, 8)
	d.Arm(0)
	want := d.Copy()
	v := opened(t, d)
	for range 2 {
		if e := Write(v, []int{6, 1}, run.Run{Start: 0, Count: 1}, run.Run{Start: 4, Count: 3}); e != api.ErrDown {
			t.Error(e)
		}
		if e := Write(v, nil); e != api.OK {
			t.Error("of no slots: ", e)
		}
		mustBeAlike(t, d, want)
	}
	d.Crash()
	if e := Write(v, []int{6, 1}, run.Run{Start: 0, Count: 1}, run.Run{Start: 4, Count: 3}); e != api.OK {
		t.Error("up again: ", e)
	}
}

func TestWriteOfMoreSlotsThanRunsOrFewer(t *testing.T) {
	r := chance(7)
	for _, n := range few() {
		slots, runs := anyChain(r, n, n)
		for a := range n + 1 {
			for b := range n + 1 {
				if a != b {
					mustRefuse(t, full(t, n), slots[:a], runs[:b]...)
				}
			}
		}
		mustRefuse(t, full(t, n), nil, run.Run{})
		mustRefuse(t, full(t, n), append(slots, -1), runs...)
	}
}

// mustRefuseInAnyPlace fails, unless a Write is refused of what may be but in one place: the first one, one in the midst, and the last one.
func mustRefuseInAnyPlace(t *testing.T, n int, spoil func(slots []int, runs []run.Run, k int)) {
	t.Helper()
	r := chance(8)
	d := full(t, n)
	for _, count := range []int{1, 2, 5, n} {
		if count > n {
			continue
		}
		for _, k := range []int{0, count / 2, count - 1} {
			slots, runs := anyChain(r, n, count)
			spoil(slots, runs, k)
			mustRefuse(t, d, slots, runs...)
		}
	}
}

func TestWriteOfASlotThatThereIsnt(t *testing.T) {
	for _, n := range []int{1, 3, 8, 20} {
		for _, s := range append(noneOf(n), -1) {
			mustRefuseInAnyPlace(t, n, func(slots []int, runs []run.Run, k int) { slots[k] = s })
		}
	}
}

func TestWriteOfOneSlotTwice(t *testing.T) {
	r := chance(9)
	for _, n := range few()[1:] {
		for range 20 {
			slots, runs := anyChain(r, n, 2+r.IntN(n-1))
			places := r.Perm(len(slots))
			slots[places[0]] = slots[places[1]]
			mustRefuse(t, full(t, n), slots, runs...)
		}
	}
	one := run.Run{Start: 0, Count: 1}
	mustRefuse(t, full(t, 5), []int{2, 2}, one, one)
	mustRefuse(t, full(t, 5), []int{2, 1, 2}, one, one, one)
	mustRefuse(t, full(t, 5), []int{2, 1, 1}, one, one, one)
	mustRefuse(t, full(t, 5), []int{0, 1, 2, 3, 4, 0}, one, one, one, one, one, one)
}

func TestWriteOfARunThatHasNone(t *testing.T) {
	for _, n := range []int{1, 8, 20} {
		for _, count := range []int{0, -1, -2, -n, -65534, -65535, -65536, math.MinInt32, -1 << 32, 1 - 1<<32, math.MinInt + 1, math.MinInt} {
			for _, start := range []int{0, n - 1, n, 2 * n} {
				mustRefuseInAnyPlace(t, n, func(slots []int, runs []run.Run, k int) { runs[k] = run.Run{Start: start, Count: count} })
			}
		}
	}
}

func TestWriteOfARunOfBlocksThatThereArent(t *testing.T) {
	for _, n := range []int{1, 8, 20} {
		runs := []run.Run{
			{Start: n, Count: 1}, {Start: n - 1, Count: 2}, {Start: 0, Count: n + 1}, {Start: n / 2, Count: n - n/2 + 1}, {Start: n + 1, Count: 1}, {Start: 65533, Count: 1}, {Start: 65534, Count: 1},
			{Start: 0, Count: 65534}, {Start: 0, Count: 65535}, {Start: 0, Count: 65536 + n}, {Start: 65536, Count: 1}, {Start: 1 << 32, Count: 1}, {Start: 0, Count: 1<<32 + 1},
			{Start: -1, Count: 1}, {Start: -1, Count: 2}, {Start: -5, Count: 6}, {Start: -65534, Count: 65535}, {Start: -1 << 32, Count: 1<<32 + 1},
			{Start: math.MinInt, Count: 1}, {Start: math.MinInt, Count: math.MaxInt}, {Start: math.MinInt + 1, Count: math.MaxInt}, {Start: -math.MaxInt + 1, Count: math.MaxInt},
			{Start: math.MaxInt, Count: 1}, {Start: math.MaxInt, Count: math.MaxInt}, {Start: 1, Count: math.MaxInt}, {Start: 0, Count: math.MaxInt}, {Start: n - 1, Count: math.MaxInt},
			{Start: math.MaxInt, Count: 2}, {Start: math.MaxInt/2 + 1, Count: math.MaxInt/2 + 1}, {Start: 1 << 62, Count: 1 << 62}, {Start: math.MinInt, Count: math.MinInt}, {Start: math.MaxInt, Count: math.MinInt + 2},
		}
		for _, r := range runs {
			mustRefuseInAnyPlace(t, n, func(slots []int, l []run.Run, k int) { l[k] = r })
		}
	}
}

// TestWriteOfEverySmallOne asks all slots and runs of these kinds, of one and of two, of a device of two blocks.
func TestWriteOfEverySmallOne(t *testing.T) {
	d := full(t, 2)
	numbers := []int{-2, -1, 0, 1, 2, 3, math.MaxInt, math.MinInt}
	may := func(s int, r run.Run) bool {
		return (s == 0 || s == 1) && (r == run.Run{Start: 0, Count: 1} || r == run.Run{Start: 0, Count: 2} || r == run.Run{Start: 1, Count: 1})
	}
	for _, a := range numbers {
		for _, start := range numbers {
			for _, count := range numbers {
				r := run.Run{Start: start, Count: count}
				for _, b := range append(numbers, 7) {
					slots, runs := []int{a, b}, []run.Run{r, {Start: 1, Count: 1}}
					if may(a, r) && may(b, runs[1]) && a != b {
						mustWrite(t, d, slots, runs)
					} else {
						mustRefuse(t, d, slots, runs...)
					}
				}
			}
		}
	}
}

func TestWriteOfTheGreatestVolumes(t *testing.T) {
	r := chance(10)
	for _, count := range []int{1, 2, 1000, greatest} {
		slots, runs := anyChain(r, greatest, count)
		d := full(t, greatest)
		want := put(d, wordsOf(t, chainOf(slots, runs)))
		if e := Write(opened(t, d), slots, runs...); e != api.OK || d.Steps() != 2*count || d.Stores() != count || !d.Same(want) {
			t.Fatalf("%d slots: %d, %d steps, %d stores", count, e, d.Steps(), d.Stores())
		}
		mustRead(t, d, slots[0], chainOf(slots, runs))
	}
	slots, runs := anyChain(r, greatest, greatest)
	d := full(t, greatest)
	mustRefuse(t, d, append(slices.Clone(slots), 0), append(slices.Clone(runs), run.Run{Start: 0, Count: 1})...)
	mustRefuse(t, d, append(slices.Clone(slots[:greatest-1]), slots[0]), runs...)
	mustRefuse(t, d, append(slices.Clone(slots[:greatest-1]), greatest), runs...)
	runs[0] = run.Run{Start: 1, Count: greatest}
	mustRefuse(t, d, slots, runs...)
}

// P16.3: what is written is read

func TestWhatIsWrittenIsRead(t *testing.T) {
	r := chance(11)
	for range 400 {
		n := 1 + r.IntN(100)
		d := full(t, n)
		slots, runs := anyChain(r, n, r.IntN(n+1))
		if e := Write(opened(t, d), slots, runs...); e != api.OK {
			t.Fatal(e)
		}
		if len(slots) > 0 {
			mustRead(t, d, slots[0], chainOf(slots, runs)) // through another volume
		}
	}
}

// TestALifeOfTwoVolumes writes chains beside and over each other, through two volumes of one device.
func TestALifeOfTwoVolumes(t *testing.T) {
	r := chance(12)
	for _, n := range []int{1, 5, 8, 40} {
		d := blank(t, n)
		words := d.Words()
		for range 300 {
			slots, runs := anyChain(r, n, r.IntN(min(n, 6)+1))
			if e := Write(opened(t, d), slots, runs...); e != api.OK {
				t.Fatal(e)
			}
			for s, x := range wordsOf(t, chainOf(slots, runs)) {
				words[slotsAt+s] = x
			}
			if !slices.Equal(d.Words(), words) {
				t.Fatal("other words changed")
			}
			for head := range n {
				if want, may := readOf(words[slotsAt:slotsAt+n], head); may {
					mustRead(t, d, head, want)
				} else {
					mustNotRead(t, d, head)
				}
			}
		}
	}
}

// A chain that is read is written again, of other slots.
func TestWhatIsReadIsWritten(t *testing.T) {
	d := with(t, 8, 0, wordOf(t, 3, 2, 7), 0, 0, 0, 0, 0, wordOf(t, 0, 1, -1))
	v := opened(t, d)
	c, e := Read(v, 1)
	if e != api.OK {
		t.Fatal(e)
	}
	if e := Write(v, []int{5, 2}, c.Runs()...); e != api.OK {
		t.Fatal(e)
	}
	mustRead(t, d, 5, chainOf([]int{5, 2}, []run.Run{{Start: 3, Count: 2}, {Start: 0, Count: 1}}))
	mustRead(t, d, 1, c)
}
