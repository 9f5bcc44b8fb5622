package mkfs

import (
	"math"
	"testing"

	"cantle/api"
	"cantle/geometry"
)

// P21.3: Grow

// mustGrow fails, unless so many words have room for so many blocks, and no more.
func mustGrow(t *testing.T, words, inodes, size, blocks int) {
	t.Helper()
	g, is := Grow(words, inodes, size)
	if blocks == 0 {
		if is || g != (geometry.Geometry{}) {
			t.Fatalf("%d words, %d inodes, %d bytes: %+v, %v, want none", words, inodes, size, g, is)
		}
		return
	}
	if want := (geometry.Geometry{Blocks: blocks, Inodes: inodes, Size: size}); !is || g != want {
		t.Fatalf("%d words: %+v, %v, want %+v", words, g, is, want)
	}
	if !g.May() || g.Words() > words {
		t.Fatalf("%d words: %+v has %d", words, g, g.Words())
	}
	g.Blocks++
	if g.May() && g.Words() <= words {
		t.Fatalf("%d words: %+v has %d alone", words, g, g.Words())
	}
}

// The numbers of the example, and the place where a block more fits.
func TestGrowByHand(t *testing.T) {
	mustGrow(t, 144, 3, 64, 10)
	mustGrow(t, 145, 3, 64, 10)
	mustGrow(t, 151, 3, 64, 10)
	mustGrow(t, 152, 3, 64, 11)
	mustGrow(t, 143, 3, 64, 9)
	mustGrow(t, 136, 3, 64, 9)
	mustGrow(t, 20, 3, 64, 0)
	// 16 of the superblock and the record, 8 of the inode, 8 of the slot, 8 of the bit, 8 of the block.
	mustGrow(t, 48, 1, 64, 1)
	mustGrow(t, 47, 1, 64, 0)
	mustGrow(t, 40+512, 1, 4096, 1)
	mustGrow(t, 39+512, 1, 4096, 0)
}

// Each number of words, from below 0 on, beyond the places where the slots and the bitmap take a line more.
func TestEachNumberOfWords(t *testing.T) {
	for _, c := range []struct{ inodes, size, words int }{{1, 64, 12000}, {3, 64, 12000}, {2, 128, 20000}, {7, 256, 4000}, {100, 512, 4000}, {5, 1024, 5000}, {1, 2048, 9000}, {1000, 4096, 20000}} {
		g := geometry.Geometry{Inodes: c.inodes, Size: c.size}
		for words := -20; words < c.words; words++ {
			for wordsOf(geometry.Geometry{Blocks: g.Blocks + 1, Inodes: g.Inodes, Size: g.Size}) <= words {
				g.Blocks++
			}
			mustGrow(t, words, c.inodes, c.size, g.Blocks)
		}
	}
}

// Around each place where one block more fits, up to the most blocks: where the slots or the bitmap take a line more, too.
func TestAroundEachBlock(t *testing.T) {
	for _, inodes := range []int{1, 8, 65534} {
		for _, size := range sizes {
			for blocks := 1; blocks <= 65534; blocks++ {
				if blocks > 1100 && blocks < 65500 && blocks%512 > 2 {
					continue
				}
				g := geometry.Geometry{Blocks: blocks, Inodes: inodes, Size: size}
				words := wordsOf(g)
				if words > api.MaxWords {
					break
				}
				mustGrow(t, words, inodes, size, blocks)
				mustGrow(t, words-1, inodes, size, blocks-1)
			}
		}
	}
}

// mostOf is the most blocks that may be with so many inodes and bytes a block.
func mostOf(inodes, size int) int {
	blocks := 65534
	for wordsOf(geometry.Geometry{Blocks: blocks, Inodes: inodes, Size: size}) > api.MaxWords {
		blocks--
	}
	return blocks
}

// As many words as there may be, and more: the greatest geometry that may be, and no greater one.
func TestGreatest(t *testing.T) {
	for _, inodes := range []int{1, 2, 3, 64, 1000, 65533, 65534} {
		for _, size := range sizes {
			most := mostOf(inodes, size)
			for _, words := range []int{api.MaxWords, api.MaxWords + 1, api.MaxWords + 4096, 1 << 23, 1 << 32, math.MaxInt - 1, math.MaxInt} {
				mustGrow(t, words, inodes, size, most)
			}
			n := wordsOf(geometry.Geometry{Blocks: most, Inodes: inodes, Size: size})
			mustGrow(t, n, inodes, size, most)
			mustGrow(t, n-1, inodes, size, most-1)
		}
	}
	if n := mostOf(1, 64); n != 65534 {
		t.Error(n)
	}
	if n := mostOf(1, 4096); n < 8000 || n > 8191 {
		t.Error(n)
	}
}

// Too few words, and numbers below 0.
func TestTooFewWords(t *testing.T) {
	for _, inodes := range []int{1, 3, 65534} {
		for _, size := range sizes {
			for _, words := range []int{0, 1, 8, 16, 24, 32, 39, 40, -1, -8, -144, math.MinInt32, math.MinInt, math.MinInt + 1, wordsOf(geometry.Geometry{Blocks: 1, Inodes: inodes, Size: size}) - 1} {
				mustGrow(t, words, inodes, size, 0)
			}
		}
	}
}

// Inodes and sizes that may not be have no geometry, however many words there are.
func TestGrowMayNot(t *testing.T) {
	for _, words := range []int{-1, 0, 48, 144, 1 << 16, api.MaxWords, math.MaxInt} {
		for _, inodes := range []int{0, -1, -3, 65535, 65536, 65537, 1 << 32, 1<<32 + 1, 1 << 61, math.MaxInt, math.MinInt} {
			for _, size := range sizes {
				mustGrow(t, words, inodes, size, 0)
			}
		}
		for _, size := range []int{0, 1, 8, 32, 63, 65, 96, 100, 192, 4095, 4097, 8192, -64, -4096, 1 << 32, 1<<32 + 64, math.MaxInt, math.MinInt} {
			mustGrow(t, words, 3, size, 0)
		}
	}
}
