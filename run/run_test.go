package run

import (
	"math"
	"math/rand/v2"
	"slices"
	"strings"
	"testing"

	"cantle/api"
	"cantle/bitmap"
)

// chance is a source of many numbers, always the same ones.
func chance(seed uint64) *rand.Rand { return rand.New(rand.NewPCG(seed, 11)) }

// drawn is a map as it is drawn: a '#' for each block that it has, a '.' for each other one.
func drawn(text string) *bitmap.Map {
	m := bitmap.New(len(text))
	for b := range len(text) {
		if text[b] == '#' {
			m.Put(b)
		}
	}
	return m
}

// drawing is how a map is drawn.
func drawing(m *bitmap.Map) string {
	l := make([]byte, m.Len())
	for b := range l {
		l[b] = '.'
		if m.Has(b) {
			l[b] = '#'
		}
	}
	return string(l)
}

// told is a text in short, so that that of a great map can be told.
func told(text string) string {
	if len(text) > 200 {
		return text[:200] + ".."
	}
	return text
}

// some has about one in every few of n blocks, by chance.
func some(r *rand.Rand, n, every int) string {
	l := make([]byte, n)
	for b := range l {
		l[b] = '.'
		if r.IntN(every) == 0 {
			l[b] = '#'
		}
	}
	return string(l)
}

// drawings are maps of all kinds that the document names, and of some more.
func drawings() []string {
	r := chance(1)
	l := []string{
		"", ".", "#", "..", "##", ".#", "#.", ".#..#.", "#..##....#",
		strings.Repeat(".", 63) + "#",
		"#" + strings.Repeat(".", 63),
		strings.Repeat("#", 63) + ".." + strings.Repeat("#", 63),
		strings.Repeat("#", 63) + ".",
		strings.Repeat("#", 64) + ".",
		strings.Repeat("#", 63) + ".#",
		strings.Repeat(".", 64) + "#" + strings.Repeat(".", 63),
		strings.Repeat(".", 63) + "##" + strings.Repeat(".", 63),
		strings.Repeat(".", 300),
		strings.Repeat("#", 300),
		strings.Repeat("#.", 100),
		strings.Repeat(".#", 100),
		strings.Repeat("#", 100) + strings.Repeat(".", 200) + strings.Repeat("#", 100),
	}
	for _, n := range []int{1, 5, 63, 64, 65, 127, 128, 129, 200} {
		l = append(l, some(r, n, 2), some(r, n, 5), some(r, n, 40))
	}
	return l
}

// greatest are maps of MaxBlocks blocks.
func greatest() []string {
	r := chance(2)
	const n = api.MaxBlocks
	return []string{
		strings.Repeat(".", n),
		strings.Repeat("#", n),
		strings.Repeat(".#", n/2),
		strings.Repeat("#.", n/2),
		"." + strings.Repeat("#", n-2) + ".",
		"#" + strings.Repeat(".", n-2) + "#",
		some(r, n, 2), some(r, n, 100),
	}
}

// extremes are counts that no map has room for, and such as are none.
func extremes() []int {
	return []int{math.MaxInt, math.MaxInt - 1, math.MaxInt/2 + 1, math.MaxInt32, math.MaxInt32 + 1, math.MaxUint32, 1<<32 + 1, 1 << 62, 65535, 65536, 131072}
}

func lows() []int {
	return []int{-1, -2, -64, -65534, -65535, math.MinInt32, -1 << 32, 1 - 1<<32, -1 << 62, math.MinInt + 1, math.MinInt}
}

// freeOf are the free runs by their meaning, block by block.
func freeOf(text string) []Run {
	var l []Run
	for b := range len(text) {
		switch {
		case text[b] == '#':
		case b > 0 && text[b-1] == '.':
			l[len(l)-1].Count++
		default:
			l = append(l, Run{b, 1})
		}
	}
	return l
}

// fitOf is what Fit tells by its meaning.
func fitOf(text string, count int) (Run, bool) {
	if count >= 1 && count <= len(text) {
		if start := strings.Index(text, strings.Repeat(".", count)); start >= 0 {
			return Run{start, count}, true
		}
	}
	return Run{}, false
}

// takeOf is what Take tells by its meaning, and how the map is drawn behind it.
func takeOf(text string, count int) ([]Run, bool, string) {
	if count < 0 || count > strings.Count(text, ".") {
		return nil, false, text
	}
	if r, is := fitOf(text, count); is {
		return []Run{r}, true, text[:r.Start] + strings.Repeat("#", count) + text[r.Start+count:]
	}
	// The first so many free blocks; they are those of the free runs from the first one on.
	behind, taken := []byte(text), []byte(strings.Repeat("#", len(text)))
	for b := range behind {
		if count > 0 && behind[b] == '.' {
			behind[b], taken[b] = '#', '.'
			count--
		}
	}
	return freeOf(string(taken)), true, string(behind)
}

// mustBe fails, unless a map is as it is drawn, by its words.
func mustBe(t *testing.T, m *bitmap.Map, text string) {
	t.Helper()
	if !m.Same(drawn(text)) {
		t.Fatalf("it is %s, want %s", told(drawing(m)), told(text))
	}
}

func mustFree(t *testing.T, text string, want ...Run) {
	t.Helper()
	m := drawn(text)
	if got := Free(m); !slices.Equal(got, want) {
		t.Fatalf("of %s: Free: %v, want %v", told(text), got, want)
	}
	mustBe(t, m, text)
}

func mustFit(t *testing.T, text string, count int, want Run) {
	t.Helper()
	m := drawn(text)
	if got, is := Fit(m, count); got != want || is != (want != Run{}) {
		t.Fatalf("of %s: Fit(%d): %v, %t, want %v", told(text), count, got, is, want)
	}
	mustBe(t, m, text)
}

// mustTake fails, unless a Take is of just these runs, true, and leaves the map as it is drawn.
func mustTake(t *testing.T, text string, count int, behind string, want ...Run) {
	t.Helper()
	m := drawn(text)
	if got, is := Take(m, count); !is || !slices.Equal(got, want) {
		t.Fatalf("of %s: Take(%d): %v, %t, want %v", told(text), count, got, is, want)
	}
	mustBe(t, m, behind)
}

func mustNotTake(t *testing.T, text string, count int) {
	t.Helper()
	m := drawn(text)
	if got, is := Take(m, count); is || len(got) != 0 {
		t.Fatalf("of %s: Take(%d): %v, %t", told(text), count, got, is)
	}
	mustBe(t, m, text)
}

// mustTakeAsMeant fails, unless a Take of a map is what it is by its meaning.
func mustTakeAsMeant(t *testing.T, m *bitmap.Map, count int) {
	t.Helper()
	text := drawing(m)
	want, wanted, behind := takeOf(text, count)
	if got, is := Take(m, count); is != wanted || !slices.Equal(got, want) {
		t.Fatalf("of %s: Take(%d): %v, %t, want %v, %t", told(text), count, got, is, want, wanted)
	}
	mustBe(t, m, behind)
}

// The example

func TestExample(t *testing.T) {
	m := bitmap.New(6)
	m.Put(1, 4)
	if got := Free(m); !slices.Equal(got, []Run{{0, 1}, {2, 2}, {5, 1}}) {
		t.Error("Free", got)
	}
	if got, is := Take(m, 3); !is || !slices.Equal(got, []Run{{0, 1}, {2, 2}}) {
		t.Error("Take", got, is)
	}
}

// P11.1: Free

func TestFreeByHand(t *testing.T) {
	mustFree(t, "")
	mustFree(t, ".", Run{0, 1})
	mustFree(t, "#")
	mustFree(t, "..", Run{0, 2})
	mustFree(t, "...#", Run{0, 3})
	mustFree(t, "#...", Run{1, 3})
	mustFree(t, "#...#", Run{1, 3})
	mustFree(t, ".#.", Run{0, 1}, Run{2, 1})
	mustFree(t, "#..##....#", Run{1, 2}, Run{5, 4})
	mustFree(t, "..##...", Run{0, 2}, Run{4, 3})
}

func TestFreeOfAllFreeAndOfAllUsed(t *testing.T) {
	for _, n := range []int{1, 2, 63, 64, 65, 128, 129, 1000, api.MaxBlocks - 1, api.MaxBlocks} {
		mustFree(t, strings.Repeat(".", n), Run{0, n})
		mustFree(t, strings.Repeat("#", n))
	}
}

func TestFreeOfEverySecond(t *testing.T) {
	for _, n := range []int{2, 63, 64, 65, 130, 1000, api.MaxBlocks} {
		for _, first := range []int{0, 1} {
			var want []Run
			for b := first; b < n; b += 2 {
				want = append(want, Run{b, 1})
			}
			mustFree(t, (strings.Repeat("#", first) + strings.Repeat(".#", n))[:n], want...)
		}
	}
}

func TestFreeAcrossAWordsEnd(t *testing.T) {
	used := strings.Repeat("#", 63)
	mustFree(t, used+".."+used, Run{63, 2})
	mustFree(t, used+"..", Run{63, 2})
	mustFree(t, used+".#"+used, Run{63, 1})
	mustFree(t, used+"#."+used, Run{64, 1})
	mustFree(t, used+".", Run{63, 1})
	mustFree(t, used+"#.", Run{64, 1})
	mustFree(t, strings.Repeat(".", 64)+"#", Run{0, 64})
	mustFree(t, "#"+strings.Repeat(".", 200)+"#", Run{1, 200})
	mustFree(t, used+"."+strings.Repeat(".", 64)+".#", Run{63, 66})
}

func TestFreeOfEveryStretch(t *testing.T) {
	const n = 131
	for start := range n {
		for count := 1; count <= n-start; count++ {
			text := strings.Repeat("#", start) + strings.Repeat(".", count) + strings.Repeat("#", n-start-count)
			mustFree(t, text, Run{start, count})
		}
	}
}

func TestFreeAsMeant(t *testing.T) {
	for _, text := range append(drawings(), greatest()...) {
		mustFree(t, text, freeOf(text)...)
	}
}

// P11.1: Fit

func TestFitByHand(t *testing.T) {
	mustFit(t, "#..##....#", 1, Run{1, 1})
	mustFit(t, "#..##....#", 2, Run{1, 2})
	mustFit(t, "#..##....#", 3, Run{5, 3})
	mustFit(t, "#..##....#", 4, Run{5, 4})
	mustFit(t, "#..##....#", 5, Run{})
	mustFit(t, "#..##....#", 6, Run{})
	mustFit(t, "#..##....#", 10, Run{})
	mustFit(t, "#..##....#", 11, Run{})
	mustFit(t, "#..##....#", 0, Run{})
	mustFit(t, "#..##....#", -1, Run{})
	mustFit(t, ".", 1, Run{0, 1})
	mustFit(t, ".", 2, Run{})
	mustFit(t, "#", 1, Run{})
	mustFit(t, "", 0, Run{})
	mustFit(t, "", 1, Run{})
}

// TestFitIsTheFirstOne: a later one that would fit better, or is longer, isn't asked.
func TestFitIsTheFirstOne(t *testing.T) {
	mustFit(t, "....#..#", 2, Run{0, 2})
	mustFit(t, "....#..#", 3, Run{0, 3})
	mustFit(t, "..#....#", 2, Run{0, 2})
	mustFit(t, ".#....#...#..#.", 2, Run{2, 2})
	mustFit(t, ".#....#...#..#.", 3, Run{2, 3})
	mustFit(t, ".#...#....#.....", 4, Run{6, 4})
	mustFit(t, "...#...#...", 3, Run{0, 3})
}

func TestFitAcrossAWordsEnd(t *testing.T) {
	text := strings.Repeat("#.", 31) + "#" + "..." + strings.Repeat("#", 62)
	mustFit(t, text, 1, Run{1, 1})
	mustFit(t, text, 2, Run{63, 2})
	mustFit(t, text, 3, Run{63, 3})
	mustFit(t, text, 4, Run{})
	mustFit(t, strings.Repeat(".", 63)+"#"+strings.Repeat(".", 64), 64, Run{64, 64})
	mustFit(t, strings.Repeat(".", 64)+"#"+strings.Repeat(".", 65), 65, Run{65, 65})
}

func TestFitOfCountsThatNoneHas(t *testing.T) {
	for _, text := range append(drawings(), greatest()...) {
		m := drawn(text)
		counts := append(append(lows(), extremes()...), 0, len(text)+1, len(text)+64)
		for _, count := range counts {
			if got, is := Fit(m, count); is || got != (Run{}) {
				t.Fatalf("of %s: Fit(%d): %v, %t", told(text), count, got, is)
			}
		}
		mustBe(t, m, text)
	}
}

func TestFitAsMeant(t *testing.T) {
	for _, text := range drawings() {
		for count := -2; count <= len(text)+2; count++ {
			want, _ := fitOf(text, count)
			mustFit(t, text, count, want)
		}
	}
	for _, text := range greatest() {
		for _, count := range []int{1, 2, 3, 10, 64, 65, 300, api.MaxBlocks - 2, api.MaxBlocks - 1, api.MaxBlocks, api.MaxBlocks + 1} {
			want, _ := fitOf(text, count)
			mustFit(t, text, count, want)
		}
	}
}

// P11.2: Take

func TestTakeOfNone(t *testing.T) {
	for _, text := range append(drawings(), greatest()...) {
		mustTake(t, text, 0, text)
	}
}

func TestTakeBelow(t *testing.T) {
	for _, text := range append(drawings(), greatest()...) {
		for _, count := range lows() {
			mustNotTake(t, text, count)
		}
	}
}

func TestTakeOfOne(t *testing.T) {
	mustTake(t, ".", 1, "#", Run{0, 1})
	mustTake(t, "...", 1, "#..", Run{0, 1})
	mustTake(t, "#.#..", 1, "###..", Run{1, 1})
	mustTake(t, "###.", 1, "####", Run{3, 1})
	mustNotTake(t, "", 1)
	mustNotTake(t, "#", 1)
	mustNotTake(t, strings.Repeat("#", 64), 1)
}

func TestTakeWhereOneRunHasSoMany(t *testing.T) {
	mustTake(t, "#..##....#", 2, "#####....#", Run{1, 2})
	// Behind shorter ones, which are left as they are.
	mustTake(t, "#..##....#", 3, "#..#####.#", Run{5, 3})
	mustTake(t, "#..##....#", 4, "#..#######", Run{5, 4})
	mustTake(t, ".#..#...#....#.....", 5, ".#..#...#....######", Run{14, 5})
	mustTake(t, ".#..#...#....#.....", 4, ".#..#...######.....", Run{9, 4})
	// The first one, though a later one would fit better.
	mustTake(t, "....#..#", 2, "##..#..#", Run{0, 2})
	mustTake(t, "......", 6, "######", Run{0, 6})
	used := strings.Repeat("#", 63)
	mustTake(t, used+".."+used, 2, used+"##"+used, Run{63, 2})
	mustTake(t, used+"..."+used, 2, used+"##."+used, Run{63, 2})
}

func TestTakeWhereAllTogetherHaveSoMany(t *testing.T) {
	// The last one cut.
	mustTake(t, "#..##....#", 5, "########.#", Run{1, 2}, Run{5, 3})
	mustTake(t, "..#..#..", 3, "####.#..", Run{0, 2}, Run{3, 1})
	mustTake(t, "..#..#..", 5, "#######.", Run{0, 2}, Run{3, 2}, Run{6, 1})
	mustTake(t, "....#....", 5, "######...", Run{0, 4}, Run{5, 1})
	// Not cut, though others come behind it.
	mustTake(t, ".#..#.", 3, "#####.", Run{0, 1}, Run{2, 2})
	mustTake(t, "..#..#..", 4, "######..", Run{0, 2}, Run{3, 2})
	mustTake(t, ".#.#.#.", 2, "####.#.", Run{0, 1}, Run{2, 1})
	// From the first one on, not the longest one first.
	mustTake(t, ".#...#.", 4, "#####"+"#.", Run{0, 1}, Run{2, 3})
	mustTake(t, ".#..#...", 4, "#####"+"#..", Run{0, 1}, Run{2, 2}, Run{5, 1})
}

func TestTakeOfAllThatIsFree(t *testing.T) {
	mustTake(t, "#..##....#", 6, "##########", Run{1, 2}, Run{5, 4})
	mustTake(t, ".#..#.", 4, "######", Run{0, 1}, Run{2, 2}, Run{5, 1})
	for _, text := range append(drawings(), greatest()...) {
		mustTake(t, text, strings.Count(text, "."), strings.Repeat("#", len(text)), freeOf(text)...)
	}
}

func TestTakeOfMoreThanIsFree(t *testing.T) {
	mustNotTake(t, "#..##....#", 7)
	mustNotTake(t, ".#..#.", 5)
	for _, text := range append(drawings(), greatest()...) {
		for _, count := range append(extremes(), strings.Count(text, ".")+1, len(text)+1) {
			mustNotTake(t, text, count)
		}
	}
}

func TestTakeAsMeant(t *testing.T) {
	for _, text := range drawings() {
		for count := -2; count <= len(text)+2; count++ {
			mustTakeAsMeant(t, drawn(text), count)
		}
	}
	for _, text := range greatest() {
		free := strings.Count(text, ".")
		for _, count := range []int{1, 2, 3, 64, 300, free / 2, free - 1, free, free + 1} {
			mustTakeAsMeant(t, drawn(text), count)
		}
	}
}

// TestOfEveryMap asks all maps of few blocks for all counts.
func TestOfEveryMap(t *testing.T) {
	for n := range 10 {
		for x := range uint64(1) << n {
			var words []uint64
			if n > 0 {
				words = []uint64{x}
			}
			m, e := bitmap.Of(n, words...)
			if e != api.OK {
				t.Fatal(n, x, e)
			}
			text := drawing(m)
			mustFree(t, text, freeOf(text)...)
			for count := -1; count <= n+1; count++ {
				want, _ := fitOf(text, count)
				mustFit(t, text, count, want)
				mustTakeAsMeant(t, m.Copy(), count)
			}
		}
	}
}

// TestTakesUntilNothingIsFree takes again and again, and gives some back between.
func TestTakesUntilNothingIsFree(t *testing.T) {
	m := drawn("..#....#...")
	for _, c := range []struct {
		count int
		runs  []Run
	}{
		{3, []Run{{3, 3}}},
		{3, []Run{{8, 3}}},
		{2, []Run{{0, 2}}},
		{1, []Run{{6, 1}}},
	} {
		if got, is := Take(m, c.count); !is || !slices.Equal(got, c.runs) {
			t.Fatal(c.count, got, is)
		}
	}
	mustBe(t, m, "###########")
	mustNotTake(t, drawing(m), 1)
	mustTake(t, drawing(m), 0, "###########")

	r := chance(3)
	for _, text := range drawings() {
		m := drawn(text)
		for m.Free() > 0 {
			mustTakeAsMeant(t, m, 1+r.IntN(1+m.Free()))
		}
		mustTakeAsMeant(t, m, 1)
	}
}

func TestTakesWithSomeGivenBackBetween(t *testing.T) {
	r := chance(4)
	for _, n := range []int{1, 7, 63, 64, 65, 130, 300} {
		m := bitmap.New(n)
		for range 400 {
			mustTakeAsMeant(t, m, r.IntN(12)-1)
			for range r.IntN(12) {
				m.Drop(r.IntN(n))
			}
			mustFree(t, drawing(m), freeOf(drawing(m))...)
		}
	}
}

// P11.1: Total

func TestTotal(t *testing.T) {
	for _, c := range []struct {
		runs []Run
		want int
	}{
		{nil, 0},
		{[]Run{}, 0},
		{[]Run{{}}, 0},
		{[]Run{{5, 1}}, 1},
		{[]Run{{5, 7}}, 7},
		{[]Run{{0, 1}, {2, 2}, {5, 1}}, 4},
		{[]Run{{9, 3}, {0, 2}, {4, 4}}, 9},
		// They have blocks together as often as they are named.
		{[]Run{{1, 2}, {1, 2}, {2, 2}}, 6},
		{[]Run{{1, 0}}, 0},
		{[]Run{{1, -1}}, 0},
		{[]Run{{0, -4}, {0, 3}}, 3},
		{[]Run{{0, 3}, {7, 0}, {9, -100}, {1, 2}, {0, math.MinInt}}, 5},
		{[]Run{{0, math.MinInt}, {0, math.MinInt}, {0, math.MinInt + 1}}, 0},
		{[]Run{{0, math.MinInt}, {0, math.MaxInt}, {0, -1}}, math.MaxInt},
		{[]Run{{math.MaxInt, 1}, {math.MinInt, 2}, {-1, 3}}, 6},
		{[]Run{{0, api.MaxBlocks}}, api.MaxBlocks},
	} {
		if got := Total(c.runs...); got != c.want {
			t.Errorf("Total(%v): %d, want %d", c.runs, got, c.want)
		}
	}
}

func TestTotalOfWhatIsFree(t *testing.T) {
	for _, text := range append(drawings(), greatest()...) {
		m := drawn(text)
		if got := Total(Free(m)...); got != m.Free() {
			t.Errorf("of %s: %d, want %d", told(text), got, m.Free())
		}
	}
}

func TestTotalOfWhatIsTaken(t *testing.T) {
	for _, text := range drawings() {
		for count := range strings.Count(text, ".") + 1 {
			l, is := Take(drawn(text), count)
			if got := Total(l...); !is || got != count {
				t.Errorf("of %s: Take(%d): %v, of %d", told(text), count, l, got)
			}
		}
	}
}

// P11.2: Join

func mustJoin(t *testing.T, runs []Run, want ...Run) {
	t.Helper()
	before := slices.Clone(runs)
	if got := Join(runs...); !slices.Equal(got, want) {
		t.Fatalf("Join(%v): %v, want %v", before, got, want)
	}
	if !slices.Equal(runs, before) {
		t.Fatalf("Join(%v) changed them: %v", before, runs)
	}
}

func TestJoinOfNoneAndOfOne(t *testing.T) {
	mustJoin(t, nil)
	mustJoin(t, []Run{})
	for _, r := range []Run{{0, 1}, {0, 5}, {7, 1}, {7, 9}, {0, api.MaxBlocks}, {api.MaxBlocks - 1, 1}} {
		mustJoin(t, []Run{r}, r)
	}
}

func TestJoinOfThoseThatGoOn(t *testing.T) {
	mustJoin(t, []Run{{0, 1}, {1, 1}}, Run{0, 2})
	mustJoin(t, []Run{{1, 2}, {3, 1}}, Run{1, 3})
	mustJoin(t, []Run{{5, 3}, {8, 4}}, Run{5, 7})
	mustJoin(t, []Run{{5, 3}, {8, 4}, {12, 1}}, Run{5, 8})
	var many []Run
	for b := range 1000 {
		many = append(many, Run{b, 1})
	}
	mustJoin(t, many, Run{0, 1000})
	mustJoin(t, many[63:66], Run{63, 3})
	// Each longer than the one ahead: 0; 1, 2; 3, 4, 5; ...
	var longer []Run
	start := 0
	for count := 1; count < 300; count++ {
		longer = append(longer, Run{start, count})
		start += count
	}
	mustJoin(t, longer, Run{0, start})
}

func TestJoinOfThoseThatDoNot(t *testing.T) {
	mustJoin(t, []Run{{0, 1}, {2, 2}, {5, 1}}, Run{0, 1}, Run{2, 2}, Run{5, 1})
	// One block between, and one that both have.
	mustJoin(t, []Run{{5, 3}, {9, 1}}, Run{5, 3}, Run{9, 1})
	mustJoin(t, []Run{{5, 3}, {7, 2}}, Run{5, 3}, Run{7, 2})
	mustJoin(t, []Run{{5, 3}, {5, 3}}, Run{5, 3}, Run{5, 3})
	mustJoin(t, []Run{{5, 3}, {6, 1}}, Run{5, 3}, Run{6, 1})
	// One that ends where the one ahead of it begins.
	mustJoin(t, []Run{{5, 3}, {2, 3}}, Run{5, 3}, Run{2, 3})
	mustJoin(t, []Run{{1, 1}, {0, 1}}, Run{1, 1}, Run{0, 1})
	mustJoin(t, []Run{{2, 1}, {1, 1}, {0, 1}}, Run{2, 1}, Run{1, 1}, Run{0, 1})
}

func TestJoinGoesOnBehindOthers(t *testing.T) {
	mustJoin(t, []Run{{1, 2}, {3, 1}, {0, 1}, {1, 1}}, Run{1, 3}, Run{0, 2})
	mustJoin(t, []Run{{9, 1}, {0, 1}, {1, 1}, {2, 3}, {7, 1}, {8, 1}}, Run{9, 1}, Run{0, 5}, Run{7, 2})
	mustJoin(t, []Run{{0, 1}, {1, 1}, {3, 1}, {4, 1}, {6, 1}}, Run{0, 2}, Run{3, 2}, Run{6, 1})
	// Only the one just ahead is asked: not the one ahead of that, and no order is made.
	mustJoin(t, []Run{{0, 2}, {5, 1}, {2, 2}}, Run{0, 2}, Run{5, 1}, Run{2, 2})
	mustJoin(t, []Run{{5, 1}, {2, 3}, {5, 2}}, Run{5, 1}, Run{2, 5})
	mustJoin(t, []Run{{3, 2}, {5, 1}, {3, 2}, {5, 1}}, Run{3, 3}, Run{3, 3})
}

// TestJoinWhoseEndIsNoInt: it wraps round to where another one begins, but doesn't end there.
func TestJoinWhoseEndIsNoInt(t *testing.T) {
	mustJoin(t, []Run{{math.MaxInt, 1}, {math.MinInt, 1}}, Run{math.MaxInt, 1}, Run{math.MinInt, 1})
	mustJoin(t, []Run{{2, math.MaxInt}, {math.MinInt + 1, 1}}, Run{2, math.MaxInt}, Run{math.MinInt + 1, 1})
	mustJoin(t, []Run{{math.MaxInt - 1, 1}, {math.MaxInt, 1}}, Run{math.MaxInt - 1, 2})
	mustJoin(t, []Run{{math.MinInt, 1}, {math.MinInt + 1, 1}}, Run{math.MinInt, 2})
	mustJoin(t, []Run{{-2, 2}, {0, 1}}, Run{-2, 3})
}

// TestJoinOfWhatHasNoBlocks: it ends where it begins, and adds nothing to what it goes on with.
func TestJoinOfWhatHasNoBlocks(t *testing.T) {
	mustJoin(t, []Run{{3, 0}, {3, 2}}, Run{3, 2})
	mustJoin(t, []Run{{3, 2}, {5, 0}, {5, 1}}, Run{3, 3})
	mustJoin(t, []Run{{3, 2}, {4, 0}, {5, 1}}, Run{3, 2}, Run{4, 0}, Run{5, 1})
}

// blocksOf are runs' blocks, in order.
func blocksOf(l []Run) []int {
	var blocks []int
	for _, r := range l {
		for b := range r.Count {
			blocks = append(blocks, r.Start+b)
		}
	}
	return blocks
}

// TestJoinKeepsBlocks: the blocks are the same ones in the same order, and no two runs are left of which one goes on.
func TestJoinKeepsBlocks(t *testing.T) {
	r := chance(5)
	for range 3000 {
		var l []Run
		for range r.IntN(12) {
			l = append(l, Run{r.IntN(6), 1 + r.IntN(4)})
		}
		joined := Join(l...)
		if !slices.Equal(blocksOf(joined), blocksOf(l)) || Total(joined...) != Total(l...) {
			t.Fatalf("Join(%v): %v", l, joined)
		}
		for k := 1; k < len(joined); k++ {
			if joined[k-1].Start+joined[k-1].Count == joined[k].Start {
				t.Fatalf("Join(%v): %v", l, joined)
			}
		}
		mustJoin(t, joined, joined...)
	}
}

func TestJoinOfFreeRunsChangesNothing(t *testing.T) {
	for _, text := range append(drawings(), greatest()...) {
		l := freeOf(text)
		mustJoin(t, l, l...)
	}
}

// P11.3: what is taken was free, and nothing else changes

func TestTakenBlocksWereFreeAndAllOthersAreAsTheyWere(t *testing.T) {
	r := chance(6)
	for _, text := range append(drawings(), greatest()...) {
		m := drawn(text)
		l, is := Take(m, r.IntN(1+m.Free()))
		if !is || m.Len() != len(text) {
			t.Fatal(told(text), is)
		}
		taken := map[int]bool{}
		end := 0
		for _, c := range l {
			if c.Count < 1 || c.Start < end {
				t.Fatalf("of %s: %v aren't rising runs", told(text), l)
			}
			end = c.Start + c.Count
		}
		for _, b := range blocksOf(l) {
			taken[b] = true
			if text[b] != '.' {
				t.Fatalf("of %s: %d wasn't free", told(text), b)
			}
		}
		for b := range len(text) {
			if m.Has(b) != (taken[b] || text[b] == '#') {
				t.Fatalf("of %s: %v was taken, and Has(%d) is %t", told(text), l, b, m.Has(b))
			}
		}
	}
}

// P11.3: memory

// spoil changes a list and the room behind it.
func spoil(l []Run) {
	l = l[:cap(l)]
	for k := range l {
		l[k] = Run{-7, -7}
	}
}

func TestAnswersAreNewMemory(t *testing.T) {
	for _, text := range drawings() {
		m := drawn(text)
		want := freeOf(text)
		a, b := Free(m), Free(m)
		spoil(a)
		if !slices.Equal(b, want) {
			t.Fatal("shared by two answers", told(text))
		}
		mustBe(t, m, text)
		// What the map is told later on isn't told by what was answered ahead.
		taken, _ := Take(m, m.Free())
		if !slices.Equal(b, want) || !slices.Equal(taken, want) {
			t.Fatal("shared by the map", told(text))
		}
		spoil(b)
		if !slices.Equal(taken, want) {
			t.Fatal("shared by Free and Take", told(text))
		}
		spoil(taken)
		mustBe(t, m, strings.Repeat("#", len(text)))
	}
}

// TestTwoMapsAreApart: what is taken of one isn't taken of its copy.
func TestTwoMapsAreApart(t *testing.T) {
	a := drawn(".#..#.")
	b := a.Copy()
	l, _ := Take(a, 3)
	mustBe(t, a, "#####.")
	mustBe(t, b, ".#..#.")
	k, _ := Take(b, 3)
	spoil(l)
	if !slices.Equal(k, []Run{{0, 1}, {2, 2}}) {
		t.Error(k)
	}
}

func TestRunsThatAreHandedInAreNotChangedOrKept(t *testing.T) {
	spare := []Run{{90, 1}, {91, 1}}
	for _, own := range [][]Run{
		nil,
		{{5, 1}},
		{{1, 2}, {3, 1}, {0, 1}, {1, 1}},
		{{0, 1}, {1, 1}, {2, 1}, {3, 1}},
		{{3, 1}, {1, 1}, {7, 2}},
		{{0, -4}, {0, 3}, {3, 0}},
	} {
		whole := slices.Concat(own, spare)
		before := slices.Clone(whole)
		l := whole[:len(own)]
		total, joined := Total(l...), Join(l...)
		if !slices.Equal(whole, before) {
			t.Fatalf("%v: changed to %v", before, whole)
		}
		// Whatever becomes of one of them, the other one is as it was.
		want := slices.Clone(joined)
		spoil(whole)
		if !slices.Equal(joined, want) {
			t.Fatalf("%v: kept by %v", before, joined)
		}
		copy(whole, before)
		spoil(joined)
		if !slices.Equal(whole, before) {
			t.Fatalf("%v: shared, now %v", before, whole)
		}
		if Total(l...) != total || !slices.Equal(Join(l...), want) {
			t.Fatalf("%v: answered otherwise again", before)
		}
	}
}
