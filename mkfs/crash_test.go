package mkfs

import (
	"math/rand/v2"
	"slices"
	"testing"

	"cantle/api"
	"cantle/check"
	"cantle/geometry"
	"cantle/inode"
	"cantle/pm"
	"cantle/super"
	"cantle/volume"
)

// P21.4: what is there behind a crash

// open are the words of a device that may hold more than one value: of each how many.
func open(d *pm.Device) []int {
	var counts []int
	for w := range d.Len() {
		if n := len(d.May(w)); n > 1 {
			counts = append(counts, n)
		}
	}
	return counts
}

// choicesOf are lists of choices of a crash: all of them, if few words are open; else all of one kind, each word alone kept or lost, and many by chance.
func choicesOf(r *rand.Rand, counts []int) [][]byte {
	var l [][]byte
	if len(counts) > 10 {
		l = append(l, make([]byte, len(counts)), slices.Repeat([]byte{1}, len(counts)))
		for k := range counts {
			alone, lost := make([]byte, len(counts)), slices.Repeat([]byte{1}, len(counts))
			alone[k], lost[k] = 1, 0
			l = append(l, alone, lost)
		}
		for range 20 {
			some := make([]byte, len(counts))
			for k := range some {
				some[k] = byte(r.Uint32())
			}
			l = append(l, some)
		}
		return l
	}
	l = append(l, nil)
	for k, n := range counts {
		for _, ahead := range l {
			for c := 1; c < n; c++ {
				l = append(l, append(append(slices.Clone(ahead), make([]byte, k-len(ahead))...), byte(c)))
			}
		}
	}
	return l
}

// mustBeNone fails, unless what a crash left has no superblock, is an empty image, or has the words that there were. It answers which of these it is.
func mustBeNone(t *testing.T, d *pm.Device, g geometry.Geometry, was []uint64) string {
	t.Helper()
	if slices.Equal(d.Words(), emptyOf(g)) {
		mustBeEmpty(t, d, g)
		return "empty"
	}
	if slices.Equal(d.Words(), was) {
		return "was"
	}
	if own, e := super.Read(d); e != api.ErrForm || check.Judge(d) != check.Super {
		t.Fatalf("a superblock of %+v, %s", own, check.Name(check.Judge(d)))
	}
	return "none"
}

// mustSurvive fails, unless a device that lasts is what it should be, wherever Format is cut off, and by whatever choices it crashes, and becomes an empty image behind that. It answers how many of each there were.
func mustSurvive(t *testing.T, d *pm.Device, g geometry.Geometry) map[string]int {
	t.Helper()
	met := map[string]int{}
	r := chance(7)
	was := d.Words()
	for fuse := 0; ; fuse++ {
		cut := armed(d, fuse)
		e := Format(cut, g)
		if e != api.OK && e != api.ErrDown {
			t.Fatal(fuse, e)
		}
		if e == api.OK {
			mustLast(t, cut)
			mustBeEmpty(t, cut, g)
		}
		for _, choices := range choicesOf(r, open(cut)) {
			c := cut.Copy()
			c.Crash(choices...)
			met[mustBeNone(t, c, g, was)]++
			if r.IntN(8) == 0 {
				if e := Format(c, g); e != api.OK {
					t.Fatal(e)
				}
				mustBeEmpty(t, c, g)
				mustLast(t, c)
			}
		}
		if e == api.OK {
			return met
		}
	}
}

// Noughts, other words, and such an image: cut off anywhere.
func TestSurvivors(t *testing.T) {
	for seed, g := range []geometry.Geometry{least(), small(), {Blocks: 9, Inodes: 2, Size: 128}} {
		for _, l := range [][]uint64{make([]uint64, g.Words()), anyWords(chance(uint64(seed)), g), emptyOf(g), slices.Repeat([]uint64{1<<64 - 1}, g.Words())} {
			met := mustSurvive(t, pm.Of(l), g)
			// What was such an image is never told as what it was.
			if met["empty"] == 0 || met["none"] == 0 || met["was"] == 0 != slices.Equal(l, emptyOf(g)) {
				t.Errorf("%+v: %v", g, met)
			}
		}
	}
}

// full is a device that has a superblock and something behind it that no empty image has.
func full(t *testing.T, g geometry.Geometry) *pm.Device {
	t.Helper()
	d, e := Make(g)
	if e != api.OK {
		t.Fatal(e)
	}
	v, e := volume.Open(d)
	if e != api.OK {
		t.Fatal(e)
	}
	for _, e := range []api.Errno{
		v.SetInode(g.Inodes-1, inode.Inode{Kind: inode.File, Head: -1}), v.SetBlock(0, []byte("bytes that stay")), v.SetBlock(g.Blocks-1, []byte("also at the end")), v.Sync(),
	} {
		if e != api.OK {
			t.Fatal(e)
		}
	}
	return pm.Of(d.Words())
}

// A device that has a superblock, of that geometry and of another one of as many words, and something behind it: never is the old superblock there with words that are new, nor the new one with old words.
func TestOldSuperblocks(t *testing.T) {
	g, o := geometry.Geometry{Blocks: 8, Inodes: 10, Size: 64}, geometry.Geometry{Blocks: 8, Inodes: 2, Size: 128}
	for _, was := range []geometry.Geometry{g, o} {
		d := full(t, was)
		for _, to := range []geometry.Geometry{g, o} {
			met := mustSurvive(t, d, to)
			if met["empty"] == 0 || met["was"] == 0 || met["none"] == 0 {
				t.Errorf("%+v, %+v: %v", was, to, met)
			}
		}
	}
}

// The superblock's noughts last ahead of the first store elsewhere, and all words elsewhere ahead of its first word.
func TestTheSuperblockComesLast(t *testing.T) {
	g := small()
	l, want := anyWords(chance(8), g), emptyOf(g)
	all := len(stepsOf(g, pm.Of(l)))
	for fuse := range all {
		d := armed(pm.Of(l), fuse)
		if e := Format(d, g); e != api.ErrDown {
			t.Fatal(fuse, e)
		}
		for w := range want {
			if w < 8 && d.Stores() > 8 && d.Lasting(w) != 0 {
				t.Fatalf("%d stores: word %d of the superblock isn't gone", d.Stores(), w)
			}
			if w >= 8 && d.Stores() > len(want) && d.Lasting(w) != want[w] {
				t.Fatalf("%d stores: word %d isn't there", d.Stores(), w)
			}
		}
	}
}

// Cut off again and again, by chance, with choices that reach beyond the values; then an empty image.
func TestCutOffAgainAndAgain(t *testing.T) {
	r := chance(9)
	cuts := 0
	for range 60 {
		g := geometry.Geometry{Blocks: 1 + r.IntN(9), Inodes: 1 + r.IntN(4), Size: 64}
		d := pm.Of(anyWords(r, g))
		for range 12 {
			was := d.Words()
			d.Arm(r.IntN(len(stepsOf(g, d)) + 2))
			if e := Format(d, g); e == api.ErrDown {
				cuts++
			} else if e != api.OK {
				t.Fatal(e)
			}
			choices := make([]byte, r.IntN(g.Words()))
			for k := range choices {
				choices[k] = byte(r.Uint32())
			}
			d.Crash(choices...)
			mustBeNone(t, d, g, was)
		}
		if e := Format(d, g); e != api.OK {
			t.Fatal(e)
		}
		mustBeEmpty(t, d, g)
		mustLast(t, d)
	}
	if cuts < 300 {
		t.Error(cuts)
	}
}
