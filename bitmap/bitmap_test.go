package bitmap

import (
	"math"
	"math/rand/v2"
	"slices"
	"testing"

	"cantle/api"
)

// chance is a source of many numbers, always the same ones.
func chance(seed uint64) *rand.Rand { return rand.New(rand.NewPCG(seed, 10)) }

// plain is a map as it is thought of: for each block, whether it has it.
type plain []bool

// plainOf has some of n blocks.
func plainOf(n int, blocks ...int) plain {
	p := make(plain, n)
	for _, b := range blocks {
		p[b] = true
	}
	return p
}

// some has about one in every few blocks, by chance.
func some(r *rand.Rand, n, every int) plain {
	p := make(plain, n)
	for b := range p {
		p[b] = r.IntN(every) == 0
	}
	return p
}

// blocks are those that it has, rising.
func (p plain) blocks() []int {
	var l []int
	for b, is := range p {
		if is {
			l = append(l, b)
		}
	}
	return l
}

// words are its words by their meaning.
func (p plain) words() []uint64 {
	var l []uint64
	for b, is := range p {
		if b%64 == 0 {
			l = append(l, 0)
		}
		if is {
			l[b/64] |= 1 << (b % 64)
		}
	}
	return l
}

// all has all of n blocks.
func all(n int) plain {
	p := make(plain, n)
	for b := range p {
		p[b] = true
	}
	return p
}

// made is a map that has the blocks of a plain one.
func made(p plain) *Map {
	m := New(len(p))
	m.Put(p.blocks()...)
	return m
}

// lengths are those of maps, at the ends of a word and of what may be.
func lengths() []int {
	return []int{0, 1, 2, 63, 64, 65, 70, 127, 128, 129, 1000, 65472, 65473, 65533, 65534}
}

// below and above are numbers that no map has a block by, or as its length.
func below() []int {
	return []int{-1, -2, -63, -64, -65, -65534, -65535, -65536, -1 << 32, math.MinInt32, math.MinInt + 64, math.MinInt + 1, math.MinInt}
}

func above() []int {
	return []int{65535, 65536, 65537, 131068, 1 << 17, 1<<20 + 5, math.MaxInt32, math.MaxUint32, 1<<32 + 1, 1 << 62, math.MaxInt - 63, math.MaxInt - 1, math.MaxInt}
}

// outside are blocks that a map of n blocks hasn't got: just beside it, and far off.
func outside(n int) []int {
	l := append(below(), above()...)
	return append(l, n, n+1, n+63, n+64, -n, -n-1, 1<<32+n, 65534)
}

// mustBe fails, unless a map is just as the plain one is, by each call that tells of it, and is still so behind that.
func mustBe(t *testing.T, m *Map, p plain) {
	t.Helper()
	n, count := len(p), len(p.blocks())
	if m.Len() != n || m.Count() != count || m.Free() != n-count {
		t.Fatalf("Len %d, Count %d, Free %d, want %d, %d, %d", m.Len(), m.Count(), m.Free(), n, count, n-count)
	}
	for b, is := range p {
		if m.Has(b) != is {
			t.Fatalf("of %d: Has(%d) isn't %t", n, b, is)
		}
	}
	for _, b := range outside(n) {
		if m.Has(b) {
			t.Fatalf("of %d: Has(%d)", n, b)
		}
	}
	if got := m.Words(); !slices.Equal(got, p.words()) {
		t.Fatalf("of %d: Words: %x, want %x", n, got, p.words())
	}
}

// mustGoOn fails, unless Next tells just what it should, from every block on and from outside.
func mustGoOn(t *testing.T, m *Map, p plain) {
	t.Helper()
	for _, used := range []bool{true, false} {
		want := -1
		for b := len(p) - 1; b >= 0; b-- {
			if p[b] == used {
				want = b
			}
			if got := m.Next(b, used); got != want {
				t.Fatalf("of %d: Next(%d, %t): %d, want %d", len(p), b, used, got, want)
			}
		}
		for _, from := range below() {
			if got := m.Next(from, used); got != want {
				t.Fatalf("of %d: Next(%d, %t): %d, want %d", len(p), from, used, got, want)
			}
		}
		for _, from := range append(above(), len(p), len(p)+1, len(p)+63, len(p)+64) {
			if got := m.Next(from, used); got != -1 {
				t.Fatalf("of %d: Next(%d, %t): %d", len(p), from, used, got)
			}
		}
	}
}

// mustPut, mustDrop and mustRange do it with a map and with a plain one, and fail, unless the answer is the one that it should be. What they leave is for mustBe to tell.
func mustPut(t *testing.T, m *Map, p plain, blocks ...int) {
	t.Helper()
	want := 0
	for _, b := range blocks {
		if b >= 0 && b < len(p) && !p[b] {
			p[b] = true
			want++
		}
	}
	if got := m.Put(blocks...); got != want {
		t.Fatalf("of %d: Put(%d): %d, want %d", len(p), blocks, got, want)
	}
}

func mustDrop(t *testing.T, m *Map, p plain, blocks ...int) {
	t.Helper()
	want := 0
	for _, b := range blocks {
		if b >= 0 && b < len(p) && p[b] {
			p[b] = false
			want++
		}
	}
	if got := m.Drop(blocks...); got != want {
		t.Fatalf("of %d: Drop(%d): %d, want %d", len(p), blocks, got, want)
	}
}

func mustRange(t *testing.T, m *Map, p plain, start, count int) {
	t.Helper()
	want := start >= 0 && start < len(p) && count >= 1 && count <= len(p)-start && !slices.Contains(p[start:start+count], true)
	if want {
		for b := range count {
			p[start+b] = true
		}
	}
	if got := m.Range(start, count); got != want {
		t.Fatalf("of %d: Range(%d, %d): %t", len(p), start, count, got)
	}
}

// The example

func TestExample(t *testing.T) {
	m := New(70)
	if got := m.Put(0, 65, 70); got != 2 {
		t.Error("Put", got)
	}
	if got := m.Words(); !slices.Equal(got, []uint64{1, 2}) {
		t.Error("Words", got)
	}
	if got := m.Next(1, true); got != 65 {
		t.Error("Next", got)
	}
	if got := m.Next(0, false); got != 1 {
		t.Error("Next", got)
	}
}

// P10.1: New and Len

func TestNew(t *testing.T) {
	for _, n := range lengths() {
		mustBe(t, New(n), make(plain, n))
		mustGoOn(t, New(n), make(plain, n))
	}
}

func TestNewOfEveryLength(t *testing.T) {
	for n := range api.MaxBlocks + 1 {
		if m := New(n); m.Len() != n || len(m.Words()) != (n+63)/64 || m.Count() != 0 || m.Free() != n {
			t.Fatal(n, m.Len(), len(m.Words()), m.Count(), m.Free())
		}
	}
}

func TestNewBelow(t *testing.T) {
	for _, n := range below() {
		m := New(n)
		mustBe(t, m, plain{})
		if m.Put(0) != 0 || m.Range(0, 1) {
			t.Error(n)
		}
	}
}

func TestNewAbove(t *testing.T) {
	for _, n := range above() {
		m, p := New(n), make(plain, 65534)
		mustBe(t, m, p)
		mustPut(t, m, p, 0, 65533, 65534, 65535)
		mustBe(t, m, p)
	}
}

func TestTwoNewOnesAreApart(t *testing.T) {
	a, b := New(70), New(70)
	a.Put(3, 69)
	mustBe(t, a, plainOf(70, 3, 69))
	mustBe(t, b, make(plain, 70))
}

// P10.1: Of

func TestOf(t *testing.T) {
	r := chance(1)
	for _, n := range lengths() {
		for _, p := range []plain{make(plain, n), all(n), some(r, n, 2), some(r, n, 50)} {
			m, e := Of(n, p.words()...)
			if e != api.OK {
				t.Fatal(n, e)
			}
			mustBe(t, m, p)
			mustGoOn(t, m, p)
		}
	}
}

func TestOfEachBitAlone(t *testing.T) {
	for _, n := range []int{1, 63, 64, 65, 129} {
		for b := range n {
			p := plainOf(n, b)
			m, e := Of(n, p.words()...)
			if e != api.OK {
				t.Fatal(n, b, e)
			}
			mustBe(t, m, p)
			mustGoOn(t, m, p)
		}
	}
}

// mustBeNone fails, unless they are no map's words.
func mustBeNone(t *testing.T, n int, words ...uint64) {
	t.Helper()
	if m, e := Of(n, words...); e != api.ErrForm || m != nil {
		t.Fatalf("Of(%d, %d words): %v, %d", n, len(words), m, e)
	}
}

func TestOfOtherCountsOfWords(t *testing.T) {
	for _, n := range lengths() {
		own := (n + 63) / 64
		for _, count := range []int{0, 1, 2, 3, own - 1, own + 1, own + 2, 2 * own, 64 * own, 1023, 1024, 1025, n} {
			if count >= 0 && count != own {
				mustBeNone(t, n, make([]uint64, count)...)
			}
		}
	}
	mustBeNone(t, 0, 0)
	mustBeNone(t, 1)
	mustBeNone(t, 64, 0, 0)
	mustBeNone(t, 65, 0)
}

func TestOfLengthsThatNoneHas(t *testing.T) {
	for _, n := range append(below(), above()...) {
		for _, count := range []int{0, 1, 2, 1023, 1024, 1025} {
			mustBeNone(t, n, make([]uint64, count)...)
		}
	}
	// With just the words that so many blocks would have.
	for _, n := range []int{65535, 65536, 65537, 131068, 1 << 20} {
		mustBeNone(t, n, make([]uint64, (n+63)/64)...)
	}
}

func TestOfABitBeyond(t *testing.T) {
	for _, n := range lengths() {
		own := (n + 63) / 64
		for b := n; b < own*64; b++ {
			for _, p := range []plain{make(plain, n), all(n)} {
				l := p.words()
				l[own-1] |= 1 << (b % 64)
				mustBeNone(t, n, l...)
			}
		}
	}
	mustBeNone(t, 1, math.MaxUint64)
	mustBeNone(t, 65534, slices.Repeat([]uint64{math.MaxUint64}, 1024)...)
}

func TestOfMultiplesOf64HasNoBitBeyond(t *testing.T) {
	for _, n := range []int{64, 128, 640, 65472} {
		m, e := Of(n, slices.Repeat([]uint64{math.MaxUint64}, n/64)...)
		if e != api.OK {
			t.Fatal(n, e)
		}
		mustBe(t, m, all(n))
	}
}

func TestOfWhatWordsAnswered(t *testing.T) {
	r := chance(2)
	for _, n := range lengths() {
		p := some(r, n, 3)
		m := made(p)
		o, e := Of(n, m.Words()...)
		if e != api.OK || !o.Same(m) || !m.Same(o) {
			t.Fatal(n, e)
		}
		mustBe(t, o, p)
	}
}

func TestOfNoWords(t *testing.T) {
	for _, words := range [][]uint64{nil, {}, make([]uint64, 0, 5)} {
		m, e := Of(0, words...)
		if e != api.OK {
			t.Fatal(e)
		}
		mustBe(t, m, plain{})
	}
}

// P10.1: Put and Drop

func TestPutAndDropEachBlock(t *testing.T) {
	for _, n := range []int{0, 1, 63, 64, 65, 129} {
		m, p := New(n), make(plain, n)
		for b := range n {
			mustPut(t, m, p, b)
			mustBe(t, m, p)
			mustPut(t, m, p, b)
			mustBe(t, m, p)
		}
		for b := range n {
			mustDrop(t, m, p, b)
			mustBe(t, m, p)
			mustDrop(t, m, p, b)
			mustBe(t, m, p)
		}
	}
}

func TestPutAndDropAtTheEdges(t *testing.T) {
	for _, n := range lengths() {
		m, p := New(n), make(plain, n)
		blocks := []int{0, 1, 62, 63, 64, 65, 127, 128, n - 1, n, n / 2}
		mustPut(t, m, p, blocks...)
		mustBe(t, m, p)
		mustGoOn(t, m, p)
		mustDrop(t, m, p, n-1, 0, 63)
		mustBe(t, m, p)
		mustGoOn(t, m, p)
		mustDrop(t, m, p, blocks...)
		mustBe(t, m, make(plain, n))
	}
}

func TestPutAndDropOfNoBlocks(t *testing.T) {
	for _, n := range lengths() {
		for _, p := range []plain{make(plain, n), all(n), some(chance(3), n, 2)} {
			m := made(p)
			for _, none := range [][]int{nil, {}} {
				if m.Put(none...) != 0 || m.Drop(none...) != 0 {
					t.Error(n)
				}
			}
			if m.Put() != 0 || m.Drop() != 0 {
				t.Error(n)
			}
			mustBe(t, m, p)
		}
	}
}

func TestPutAndDropOfOneBlockTwice(t *testing.T) {
	for _, n := range []int{1, 63, 64, 65, 65534} {
		for _, b := range []int{0, n / 2, n - 1} {
			m, p := New(n), plainOf(n, b)
			if got := m.Put(b, b); got != 1 {
				t.Error("Put", n, b, got)
			}
			mustBe(t, m, p)
			if got := m.Drop(b, b, b); got != 1 {
				t.Error("Drop", n, b, got)
			}
			mustBe(t, m, make(plain, n))
			// And with another one between.
			if got, want := m.Put(b, 0, b), 1+min(b, 1); got != want {
				t.Error("Put", n, b, got)
			}
			if got, want := m.Drop(b, 0, b), 1+min(b, 1); got != want {
				t.Error("Drop", n, b, got)
			}
			mustBe(t, m, make(plain, n))
		}
	}
}

func TestPutAndDropOfBlocksThatThereAreNot(t *testing.T) {
	for _, n := range lengths() {
		for _, p := range []plain{make(plain, n), all(n), some(chance(4), n, 2)} {
			m := made(p)
			for _, b := range outside(n) {
				if m.Put(b) != 0 || m.Drop(b) != 0 || m.Put(b, b) != 0 || m.Drop(b, b) != 0 {
					t.Error(n, b)
				}
			}
			if m.Put(outside(n)...) != 0 || m.Drop(outside(n)...) != 0 {
				t.Error(n)
			}
			mustBe(t, m, p)
		}
	}
}

func TestPutAndDropOfBlocksThatThereAreNotBesideOnesThatThereAre(t *testing.T) {
	for _, n := range []int{1, 63, 64, 65, 65534} {
		m, p := New(n), make(plain, n)
		mixed := append([]int{-1, 0, n, math.MinInt, math.MaxInt, n - 1, -64}, outside(n)...)
		mixed = append(mixed, n/2, -1)
		mustPut(t, m, p, mixed...)
		mustBe(t, m, p)
		mustPut(t, m, p, mixed...)
		mustBe(t, m, p)
		mustDrop(t, m, p, append(mixed, n/3)...)
		mustBe(t, m, make(plain, n))
	}
}

func TestPutAndDropOfAll(t *testing.T) {
	for _, n := range lengths() {
		m, p := New(n), make(plain, n)
		blocks := all(n).blocks()
		mustPut(t, m, p, blocks...)
		mustBe(t, m, all(n))
		mustGoOn(t, m, all(n))
		mustPut(t, m, p, blocks...)
		mustBe(t, m, all(n))
		slices.Reverse(blocks)
		mustDrop(t, m, p, blocks...)
		mustBe(t, m, make(plain, n))
		mustGoOn(t, m, make(plain, n))
	}
}

// P10.1: Range

func TestRangeOfEveryStretch(t *testing.T) {
	for _, n := range []int{0, 1, 2, 63, 64, 65, 130} {
		for start := -2; start <= n+2; start++ {
			for count := -2; count <= n+3; count++ {
				m, p := New(n), make(plain, n)
				mustRange(t, m, p, start, count)
				if m.Count() != len(p.blocks()) || !slices.Equal(m.Words(), p.words()) {
					t.Fatalf("of %d: Range(%d, %d): %x", n, start, count, m.Words())
				}
			}
		}
	}
}

func TestRangeOfAllTheFirstAndTheLast(t *testing.T) {
	for _, n := range lengths() {
		for _, c := range [][2]int{{0, n}, {0, 1}, {n - 1, 1}, {0, n - 1}, {1, n - 1}} {
			m, p := New(n), make(plain, n)
			mustRange(t, m, p, c[0], c[1])
			mustBe(t, m, p)
			mustGoOn(t, m, p)
			mustRange(t, m, p, c[0], c[1])
			mustBe(t, m, p)
		}
	}
}

func TestRangeAcrossAWordsEnd(t *testing.T) {
	for _, c := range [][2]int{{63, 2}, {60, 10}, {0, 65}, {1, 64}, {63, 66}, {64, 64}, {0, 64}, {64, 1}, {63, 1}, {100, 400}} {
		m, p := New(1000), make(plain, 1000)
		mustRange(t, m, p, c[0], c[1])
		mustBe(t, m, p)
		if m.Count() != c[1] {
			t.Error(c, m.Count())
		}
		mustGoOn(t, m, p)
	}
}

func TestRangeWithABlockThatItHas(t *testing.T) {
	for _, n := range []int{1, 2, 63, 64, 65, 130} {
		for b := range n {
			m, p := New(n), plainOf(n, b)
			m.Put(b)
			// Each stretch that has it, at its front, in its midst, at its end.
			for start := 0; start <= b; start++ {
				for _, end := range []int{b + 1, b + 2, n} {
					if end <= n && m.Range(start, end-start) {
						t.Fatalf("of %d that has %d: Range(%d, %d)", n, b, start, end-start)
					}
				}
			}
			mustBe(t, m, p)
			// Those that end just ahead of it, or begin just behind it, it may have.
			mustRange(t, m, p, 0, b)
			mustRange(t, m, p, b+1, n-b-1)
			mustBe(t, m, all(n))
		}
	}
	for _, b := range []int{0, 1, 63, 64, 32767, 65532, 65533} {
		m := New(65534)
		m.Put(b)
		if m.Range(0, 65534) {
			t.Error(b)
		}
		mustBe(t, m, plainOf(65534, b))
	}
}

func TestRangeOfAFullMap(t *testing.T) {
	for _, n := range lengths() {
		m := made(all(n))
		for _, c := range [][2]int{{0, n}, {0, 1}, {n - 1, 1}, {n / 2, 1}} {
			if m.Range(c[0], c[1]) {
				t.Error(n, c)
			}
		}
		mustBe(t, m, all(n))
	}
}

func TestRangeOfBlocksThatThereAreNot(t *testing.T) {
	for _, n := range lengths() {
		m := New(n)
		far := append(outside(n), 0, 1, n-1, n/2)
		for _, start := range far {
			for _, count := range far {
				inside := start >= 0 && start < n && count >= 1 && count <= n-start
				if !inside && m.Range(start, count) {
					t.Fatalf("of %d: Range(%d, %d)", n, start, count)
				}
			}
		}
		mustBe(t, m, make(plain, n))
	}
}

// TestRangeWhoseEndIsNoInt: the end wraps round, some of it to a block that there is.
func TestRangeWhoseEndIsNoInt(t *testing.T) {
	for _, n := range lengths() {
		m := New(n)
		for _, start := range []int{1, 2, n - 1, n, math.MaxInt/2 + 1, math.MaxInt - 1, math.MaxInt} {
			for _, count := range []int{math.MaxInt, math.MaxInt - 1, math.MaxInt/2 + 1, math.MaxInt - start, math.MaxInt - start + 1} {
				if m.Range(start, count) && (start < 0 || count < 1 || count > n-start) {
					t.Fatalf("of %d: Range(%d, %d)", n, start, count)
				}
			}
		}
		for _, c := range [][2]int{{math.MinInt, math.MinInt}, {math.MinInt, math.MaxInt}, {math.MaxInt, math.MinInt}, {math.MinInt + 1, math.MinInt}, {-1, math.MinInt}, {-5, 10}, {10, -5}} {
			if m.Range(c[0], c[1]) {
				t.Fatalf("of %d: Range(%d)", n, c)
			}
		}
		mustBe(t, m, make(plain, n))
	}
}

// P10.2: Next

func TestNextOfWhatHasOneBlock(t *testing.T) {
	for _, n := range []int{1, 63, 64, 65, 129, 200} {
		for b := range n {
			p := plainOf(n, b)
			mustGoOn(t, made(p), p)
			lacks := all(n)
			lacks[b] = false
			mustGoOn(t, made(lacks), lacks)
		}
	}
}

func TestNextOfNoneAndOfAll(t *testing.T) {
	for _, n := range lengths() {
		none, full := New(n), made(all(n))
		for from := -1; from <= n+1; from++ {
			if none.Next(from, true) != -1 || full.Next(from, false) != -1 {
				t.Fatal(n, from)
			}
			want := max(from, 0)
			if want >= n {
				want = -1
			}
			if none.Next(from, false) != want || full.Next(from, true) != want {
				t.Fatal(n, from, none.Next(from, false), full.Next(from, true))
			}
		}
	}
}

func TestNextOfTheGreatest(t *testing.T) {
	p := plainOf(65534, 0, 63, 64, 30000, 65533)
	mustGoOn(t, made(p), p)
	lacks := all(65534)
	lacks[0], lacks[12345], lacks[65533] = false, false, false
	mustGoOn(t, made(lacks), lacks)
}

func TestNextGoesOverAll(t *testing.T) {
	p := some(chance(5), 1000, 4)
	m := made(p)
	var l []int
	for b := m.Next(0, true); b != -1; b = m.Next(b+1, true) {
		l = append(l, b)
	}
	if !slices.Equal(l, p.blocks()) {
		t.Error(l)
	}
	mustBe(t, m, p)
}

// P10.2: Copy

func TestCopyIsTheSame(t *testing.T) {
	r := chance(6)
	for _, n := range lengths() {
		for _, p := range []plain{make(plain, n), all(n), some(r, n, 2)} {
			m := made(p)
			o := m.Copy()
			if o == m || !m.Same(o) || !o.Same(m) {
				t.Fatal(n)
			}
			mustBe(t, o, p)
			mustBe(t, m, p)
		}
	}
}

func TestCopyIsApart(t *testing.T) {
	r := chance(7)
	for _, n := range []int{1, 63, 64, 65, 65534} {
		p := some(r, n, 2)
		p[0] = false
		m := made(p)
		o := m.Copy()
		q := slices.Clone(p)
		mustPut(t, o, q, 0, n-1)
		mustBe(t, o, q)
		mustBe(t, m, p)
		mustDrop(t, m, p, p.blocks()...)
		mustRange(t, m, p, 0, n)
		mustBe(t, m, all(n))
		mustBe(t, o, q)
		if m.Same(o) && len(q.blocks()) != n {
			t.Error(n)
		}
	}
}

// P10.2: Same

func TestSame(t *testing.T) {
	for _, n := range lengths() {
		p := some(chance(8), n, 2)
		m, o := made(p), made(p)
		if !m.Same(m) || !m.Same(o) || !o.Same(m) {
			t.Error(n)
		}
		for _, b := range []int{0, n / 2, n - 1} {
			if b < 0 || b >= n {
				continue
			}
			q := slices.Clone(p)
			q[b] = !q[b]
			if other := made(q); m.Same(other) || other.Same(m) {
				t.Error(n, b)
			}
		}
	}
}

func TestSameByWhateverWayItCame(t *testing.T) {
	a, b := New(130), New(130)
	a.Put(129, 5, 64, 63, 5)
	b.Range(60, 70)
	b.Drop(60, 61, 62)
	for k := 65; k < 129; k++ {
		b.Drop(k)
	}
	b.Put(5)
	if !a.Same(b) || !b.Same(a) {
		t.Error(a.Words(), b.Words())
	}
}

func TestSameOfOtherLengths(t *testing.T) {
	for _, n := range lengths() {
		for _, o := range lengths() {
			for _, b := range []int{-1, 0} {
				x, y := New(n), New(o)
				x.Put(b)
				y.Put(b)
				want := n == o
				if got := x.Same(y); got != want {
					t.Error(n, o, b, got)
				}
			}
		}
	}
}

func TestSameOfNils(t *testing.T) {
	var a, b *Map
	if !a.Same(b) || !a.Same(a) || !a.Same(nil) {
		t.Error("two nils")
	}
	for _, n := range lengths() {
		for _, m := range []*Map{New(n), made(all(n))} {
			if a.Same(m) || m.Same(a) || m.Same(nil) {
				t.Error(n)
			}
		}
	}
}

// P10.3: memory

// TestOfKeepsNoWords hands in words that have room behind them.
func TestOfKeepsNoWords(t *testing.T) {
	for _, n := range []int{1, 63, 64, 65, 129, 65534} {
		p := some(chance(9), n, 2)
		own := (n + 63) / 64
		whole := append(p.words(), 77, 78, 79)
		before := slices.Clone(whole)
		m, e := Of(n, whole[:own]...)
		if e != api.OK {
			t.Fatal(n, e)
		}
		q := slices.Clone(p)
		mustPut(t, m, q, 0, n-1)
		mustDrop(t, m, q, n/2)
		mustBe(t, m, q)
		if !slices.Equal(whole, before) {
			t.Fatal("changed", n)
		}
		clear(whole)
		mustBe(t, m, q)
	}
}

func TestOfWhatIsNoneChangesNoWords(t *testing.T) {
	whole := []uint64{1, 4, 77, 78}
	for _, n := range []int{-1, 66, 65, 200, 65534, 65535} {
		mustBeNone(t, n, whole[:2]...)
		if !slices.Equal(whole, []uint64{1, 4, 77, 78}) {
			t.Fatal(n, whole)
		}
	}
}

func TestPutAndDropChangeNoBlocks(t *testing.T) {
	m := New(70)
	whole := []int{69, 3, 3, -1, 70, 0, math.MaxInt, math.MinInt, 64, 55, 56}
	before := slices.Clone(whole)
	blocks := whole[:9]
	if m.Put(blocks...) != 4 || !slices.Equal(whole, before) {
		t.Error("Put", whole)
	}
	clear(blocks)
	mustBe(t, m, plainOf(70, 0, 3, 64, 69))
	copy(whole, before)
	if m.Drop(blocks...) != 4 || !slices.Equal(whole, before) {
		t.Error("Drop", whole)
	}
	clear(blocks)
	mustBe(t, m, make(plain, 70))
}

func TestWordsAreNewMemory(t *testing.T) {
	for _, n := range []int{0, 1, 63, 64, 65, 129, 65534} {
		p := some(chance(10), n, 2)
		m := made(p)
		a, b := m.Words(), m.Words()
		for k := range a {
			a[k] = ^a[k]
		}
		_ = append(a, 5)
		if !slices.Equal(b, p.words()) {
			t.Error("shared by two answers", n)
		}
		mustBe(t, m, p)
		// And what is changed later on isn't told by what was answered ahead.
		before := slices.Clone(b)
		m.Put(all(n).blocks()...)
		m.Drop(all(n).blocks()...)
		if !slices.Equal(b, before) {
			t.Error("shared by the map", n)
		}
	}
}

func TestWordsOfNoBlocks(t *testing.T) {
	of, e := Of(0)
	if e != api.OK || len(of.Words()) != 0 || len(New(0).Words()) != 0 || len(New(0).Copy().Words()) != 0 {
		t.Error(of, e)
	}
}

// All of it, one behind the other

func TestManyCalls(t *testing.T) {
	r := chance(11)
	for _, n := range []int{0, 1, 5, 63, 64, 65, 130, 300} {
		m, p := New(n), make(plain, n)
		near := func() int { return r.IntN(n+10) - 5 }
		for range 600 {
			switch r.IntN(4) {
			case 0:
				mustPut(t, m, p, near(), near(), near())
			case 1:
				mustDrop(t, m, p, near(), near(), near(), near())
			case 2:
				mustRange(t, m, p, near(), r.IntN(12)-1)
			case 3:
				o, e := Of(n, m.Copy().Words()...)
				if e != api.OK || !o.Same(m) {
					t.Fatal(n, e)
				}
				m = o
			}
			mustBe(t, m, p)
		}
		mustGoOn(t, m, p)
	}
}
