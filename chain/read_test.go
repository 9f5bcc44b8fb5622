package chain

import (
	"math/rand/v2"
	"slices"
	"testing"

	"cantle/api"
	"cantle/pm"
	"cantle/run"
	"cantle/slot"
)

// readOf is what Read answers by its meaning: of the slots' words, and of which slots were met.
func readOf(words []uint64, head int) (Chain, bool) {
	var c Chain
	met := map[int]bool{}
	for s := head; s != -1; {
		if s < 0 || s >= len(words) || met[s] {
			return Chain{}, false
		}
		met[s] = true
		part, e := slot.Decode(words[s])
		if e != api.OK || part.Start+part.Count > len(words) {
			return Chain{}, false
		}
		c.Slots = append(c.Slots, s)
		c.Parts = append(c.Parts, part)
		s = part.Next
	}
	return c, true
}

// mustRead fails, unless Read of a device answers just this chain, and does nothing, whether or not the device is down.
func mustRead(t *testing.T, d *pm.Device, head int, want Chain) {
	t.Helper()
	before := d.Steps()
	got, e := Read(opened(t, d), head)
	if e != api.OK || !same(got, want) {
		t.Fatalf("from %d on: %d slots, %v, %d, want %d, %v", head, len(got.Slots), short(got), e, len(want.Slots), short(want))
	}
	if d.Steps() != before {
		t.Fatalf("from %d on: it did %d steps", head, d.Steps()-before)
	}
}

// mustNotRead fails, unless there is no chain from a head on, and none beside the error.
func mustNotRead(t *testing.T, d *pm.Device, head int) {
	t.Helper()
	before := d.Steps()
	got, e := Read(opened(t, d), head)
	if e != api.ErrForm || len(got.Slots) != 0 || len(got.Parts) != 0 {
		t.Fatalf("from %d on: %d slots, %v, %d", head, len(got.Slots), short(got), e)
	}
	if d.Steps() != before {
		t.Fatalf("from %d on: it did %d steps", head, d.Steps()-before)
	}
}

// P16.1: Read

func TestReadOfNone(t *testing.T) {
	for _, n := range sizes() {
		mustRead(t, blank(t, n), -1, Chain{})
		mustRead(t, full(t, n), -1, Chain{})
		mustRead(t, with(t, n, wordOf(t, 0, 1, -1)), -1, Chain{})
	}
}

func TestReadOfAHeadThatThereIsnt(t *testing.T) {
	for _, n := range sizes() {
		words := slices.Repeat([]uint64{wordOf(t, 0, 1, -1)}, n)
		d := with(t, n, words...)
		for _, head := range noneOf(n) {
			if head < 0 || head >= n {
				mustNotRead(t, d, head)
			}
		}
		mustRead(t, d, n-1, chainOf([]int{n - 1}, []run.Run{{Start: 0, Count: 1}}))
	}
}

// The words behind the last slot's fill the line, and are no slots, whatever they are.
func TestReadOfAWordThatFillsTheLine(t *testing.T) {
	l := with(t, 3, wordOf(t, 0, 1, 3), wordOf(t, 1, 1, 2), wordOf(t, 2, 1, -1)).Words()
	for w := 3; w < 8; w++ {
		l[slotsAt+w] = wordOf(t, 0, 1, -1)
	}
	for head := 3; head < 8; head++ {
		mustNotRead(t, pm.Of(l), head)
	}
	mustNotRead(t, pm.Of(l), 0)
	mustRead(t, pm.Of(l), 1, chainOf([]int{1, 2}, []run.Run{{Start: 1, Count: 1}, {Start: 2, Count: 1}}))
}

func TestReadOfOneSlot(t *testing.T) {
	for _, n := range sizes() {
		for _, s := range []int{0, n / 2, n - 1} {
			for _, r := range []run.Run{{Start: 0, Count: 1}, {Start: 0, Count: n}, {Start: n - 1, Count: 1}, {Start: n / 2, Count: n - n/2}} {
				c := chainOf([]int{s}, []run.Run{r})
				mustRead(t, put(full(t, n), wordsOf(t, c)), s, c)
			}
		}
	}
}

func TestReadOfTwoSlots(t *testing.T) {
	for _, n := range sizes()[1:] {
		for _, slots := range [][]int{{0, 1}, {1, 0}, {0, n - 1}, {n - 1, 0}} {
			c := chainOf(slots, []run.Run{{Start: n - 1, Count: 1}, {Start: 0, Count: n - 1}})
			d := put(full(t, n), wordsOf(t, c))
			mustRead(t, d, slots[0], c)
			mustRead(t, d, slots[1], Chain{c.Slots[1:], c.Parts[1:]})
		}
	}
}

func TestReadOfAsManySlotsAsThereAre(t *testing.T) {
	r := chance(2)
	for _, n := range sizes() {
		for _, slots := range [][]int{rising(n), falling(n), r.Perm(n)} {
			runs := make([]run.Run, n)
			for k := range runs {
				runs[k] = run.Run{Start: n - 1 - k, Count: 1}
			}
			c := chainOf(slots, runs)
			d := put(blank(t, n), wordsOf(t, c))
			mustRead(t, d, slots[0], c)
			mustRead(t, d, slots[n/2], Chain{c.Slots[n/2:], c.Parts[n/2:]})
			mustRead(t, d, slots[n-1], Chain{c.Slots[n-1:], c.Parts[n-1:]})
		}
	}
}

// rising are the numbers of so many slots, and falling are the same from the last one on.
func rising(n int) []int {
	l := make([]int, n)
	for k := range l {
		l[k] = k
	}
	return l
}

func falling(n int) []int {
	l := rising(n)
	slices.Reverse(l)
	return l
}

// Blocks that are in two of its parts don't matter: which ones are whose is asked of claims.
func TestReadOfBlocksThatAreThereTwice(t *testing.T) {
	c := chainOf([]int{4, 2, 3}, []run.Run{{Start: 1, Count: 3}, {Start: 2, Count: 3}, {Start: 1, Count: 3}})
	mustRead(t, put(blank(t, 5), wordsOf(t, c)), 4, c)
}

func TestReadOfANextThatThereIsnt(t *testing.T) {
	for _, n := range sizes()[:9] {
		for _, next := range []int{n, n + 1, n + 7, n + 8, 2*n + 1, 256 + n, 65532, 65533} {
			x := wordOf(t, 0, 1, next)
			mustNotRead(t, with(t, n, x), 0)
			mustNotRead(t, put(full(t, n), map[int]uint64{n - 1: x}), n-1)
			if n >= 3 {
				mustNotRead(t, with(t, n, wordOf(t, 0, 1, 2), 0, wordOf(t, 1, 1, 1)), 0)
				mustNotRead(t, with(t, n, wordOf(t, 0, 1, 2), x, wordOf(t, 1, 1, 1)), 0)
			}
		}
	}
}

func TestReadOfAWordThatIsNones(t *testing.T) {
	good := wordOf(t, 1, 2, -1)
	bad := []uint64{0, 1, ^uint64(0), 1 << 63, good + 1<<48, good - 1<<48}
	for bit := range 64 {
		bad = append(bad, good^1<<bit)
	}
	for _, x := range bad {
		mustNotRead(t, with(t, 4, x), 0)
		mustNotRead(t, with(t, 4, wordOf(t, 0, 1, 1), x), 0)
		mustNotRead(t, with(t, 4, wordOf(t, 0, 1, 2), x, wordOf(t, 0, 1, 1)), 0)
	}
	mustRead(t, with(t, 4, good), 0, chainOf([]int{0}, []run.Run{{Start: 1, Count: 2}}))
}

// A run may end just at the last block, and not just behind it.
func TestReadOfBlocksThatThereArent(t *testing.T) {
	for _, n := range sizes()[:9] {
		for start := range min(n+3, 70) {
			for _, end := range []int{n - 1, n, n + 1, n + 2, n + 64, 2*n + 1, greatest} {
				if end <= start {
					continue
				}
				r := run.Run{Start: start, Count: end - start}
				for _, c := range []Chain{chainOf([]int{n - 1}, []run.Run{r}), chainOf([]int{n - 1, 0}, []run.Run{{Start: 0, Count: 1}, r}), chainOf([]int{n - 1, 0}, []run.Run{r, {Start: 0, Count: 1}})} {
					if len(c.Slots) > n {
						continue
					}
					d := put(blank(t, n), wordsOf(t, c))
					if end <= n {
						mustRead(t, d, n-1, c)
					} else {
						mustNotRead(t, d, n-1)
					}
				}
			}
		}
	}
}

func TestReadOfBlocksBehindTheGreatestVolumes(t *testing.T) {
	for _, n := range []int{greatest, greatest - 1} {
		for _, start := range []int{0, 1, n / 2, n - 1} {
			c := chainOf([]int{5}, []run.Run{{Start: start, Count: n - start}})
			mustRead(t, put(blank(t, n), wordsOf(t, c)), 5, c)
		}
	}
	for _, start := range []int{0, 1, 30000, greatest - 2, greatest - 1} {
		mustNotRead(t, put(blank(t, greatest-1), map[int]uint64{5: wordOf(t, start, greatest-start, -1)}), 5)
	}
}

// A chain goes some slots on, and then comes back to one of its own.
func TestReadOfOneThatComesBack(t *testing.T) {
	r := chance(3)
	for _, n := range sizes() {
		lengths := []int{1, 2, 3, 4, 7, n / 2, n - 1, n}
		for _, length := range lengths {
			if length < 1 || length > n {
				continue
			}
			for _, back := range []int{0, length / 2, length - 2, length - 1} {
				if back < 0 {
					continue
				}
				mustNotComeBack(t, r, n, length, back)
			}
		}
	}
}

// mustNotComeBack fails, unless a chain of so many slots whose last one goes back to one of them is none, from its head, and from the slot that it comes back to; and is one without that.
func mustNotComeBack(t *testing.T, r *rand.Rand, n, length, back int) {
	t.Helper()
	slots := r.Perm(n)[:length]
	c := chainOf(slots, slices.Repeat([]run.Run{{Start: 0, Count: n}}, length))
	mustRead(t, put(blank(t, n), wordsOf(t, c)), slots[0], c)
	c.Parts[length-1].Next = slots[back]
	d := put(blank(t, n), wordsOf(t, c))
	mustNotRead(t, d, slots[0])
	mustNotRead(t, d, slots[back])
	mustNotRead(t, d, slots[length-1])
}

// TestReadOfEveryWordOfThree asks all devices of three slots whose words are of these kinds, from all heads.
func TestReadOfEveryWordOfThree(t *testing.T) {
	words := []uint64{0, wordOf(t, 1, 2, -1), wordOf(t, 2, 2, -1), wordOf(t, 0, 4, 1), wordOf(t, 0, 3, 0), wordOf(t, 2, 1, 1), wordOf(t, 1, 1, 2), wordOf(t, 1, 1, 3), wordOf(t, 3, 1, -1)}
	for _, a := range words {
		for _, b := range words {
			for _, c := range words {
				l := []uint64{a, b, c}
				d := with(t, 3, l...)
				for head := -3; head < 5; head++ {
					if want, may := readOf(l, head); may {
						mustRead(t, d, head, want)
					} else {
						mustNotRead(t, d, head)
					}
				}
			}
		}
	}
}

func TestReadOfAnyWords(t *testing.T) {
	r := chance(4)
	counts := map[bool]int{}
	for range 3000 {
		n := 1 + r.IntN(30)
		l := make([]uint64, n)
		for s := range l {
			start := r.IntN(n)
			l[s] = wordOf(t, start, 1+r.IntN(n-start), r.IntN(n+1)-1)
			if r.IntN(20) == 0 {
				l[s] = wordOf(t, start, n+1-start, -1)
			}
			if r.IntN(20) == 0 {
				l[s] ^= 1 << r.IntN(64)
			}
		}
		d := with(t, n, l...)
		for head := -2; head < n+2; head++ {
			want, may := readOf(l, head)
			counts[may]++
			if may {
				mustRead(t, d, head, want)
			} else {
				mustNotRead(t, d, head)
			}
		}
	}
	if counts[true] < 1000 || counts[false] < 1000 {
		t.Error("too few of one kind", counts)
	}
}

// What is read is what is seen, not what lasts, and of a device that is down it is the same.
func TestReadOfWhatIsSeen(t *testing.T) {
	d := with(t, 5, wordOf(t, 0, 1, 1), wordOf(t, 1, 1, -1))
	d.Store(slotsAt+1, wordOf(t, 2, 3, 4))
	mustNotRead(t, d, 0)
	d.Store(slotsAt+4, wordOf(t, 1, 1, -1))
	want := chainOf([]int{0, 1, 4}, []run.Run{{Start: 0, Count: 1}, {Start: 2, Count: 3}, {Start: 1, Count: 1}})
	mustRead(t, d, 0, want)
	d.Arm(0)
	mustRead(t, d, 0, want)
	mustNotRead(t, d, 2)
	d.Crash()
	mustRead(t, d, 0, chainOf([]int{0, 1}, []run.Run{{Start: 0, Count: 1}, {Start: 1, Count: 1}}))
}

func TestReadByHand(t *testing.T) {
	d := with(t, 8, 0, 0, wordOf(t, 5, 2, 0), 0, 0)
	d.Store(slotsAt, wordOf(t, 1, 1, -1))
	c, e := Read(opened(t, d), 2)
	if e != api.OK || len(c.Slots) != 2 || c.Slots[0] != 2 || c.Slots[1] != 0 || len(c.Parts) != 2 {
		t.Fatal(c, e)
	}
	if c.Parts[0] != (slot.Slot{Start: 5, Count: 2, Next: 0}) || c.Parts[1] != (slot.Slot{Start: 1, Count: 1, Next: -1}) {
		t.Error(c)
	}
}
