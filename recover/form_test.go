package recover

import (
	"testing"

	"cantle/api"
	"cantle/check"
	"cantle/geometry"
	"cantle/pm"
	"cantle/record"
	"cantle/super"
)

// P20.1, P20.2: of what isn't sound

// No words at all, noughts, words that are anything, and a device that is another one's.
func TestNoSuperblock(t *testing.T) {
	for _, n := range []int{0, 1, 7, 8, 9, 16, 144, 1 << 12} {
		mustRefuse(t, make([]uint64, n))
	}
	r := chance(5)
	for range 50 {
		l := make([]uint64, r.IntN(200))
		for w := range l {
			l[w] = r.Uint64()
		}
		mustRefuse(t, l)
	}
	l, _ := shelf(t, small())
	mustRefuse(t, l[:len(l)-1])
	mustRefuse(t, l[:8])
	mustRefuse(t, append(l[:len(l):len(l)], 0))
}

// deep are directories, each in the one ahead, so that the last one, of this number, is met by as many names.
func deep(number int) []thing {
	var l []thing
	for i := range number {
		l = append(l, dir(i, to("down", i+1)))
	}
	return append(l, dir(number))
}

// Each fault ahead of Bitmap, with a bitmap and a record that are right, and with ones that aren't.
func TestEachFault(t *testing.T) {
	g := geometry.Geometry{Blocks: 80, Inodes: 80, Size: 64}
	twice := []thing{dir(0, to("a", 1), to("b", 1)), doc(1, "some")}
	for k, c := range []struct {
		things []thing
		turn   []int // words one bit of which is turned
		want   check.Fault
	}{
		{shelved(), []int{0}, check.Super},
		{shelved(), []int{7}, check.Super},
		{shelved(), []int{inodeAt(0)}, check.Claims},
		{shelved(), []int{inodeAt(7)}, check.Claims},
		{shelved(), []int{inodeAt(79) + 7}, check.Claims},
		{nil, nil, check.Root},
		{[]thing{doc(0, "")}, nil, check.Root},
		{[]thing{dir(1)}, nil, check.Root},
		{[]thing{dir(0, to("a", 1), to("a", 2)), doc(1, ""), doc(2, "")}, nil, check.Folder},
		{[]thing{dir(0, to("a", 1)), dir(1, to("b", 2), to("b", 3)), doc(2, ""), doc(3, "")}, nil, check.Folder},
		{[]thing{dir(0, to("a", 1))}, nil, check.Link},
		{[]thing{dir(0, to("a", 80))}, nil, check.Link},
		{[]thing{dir(0, to("a", 0))}, nil, check.Link},
		{twice, nil, check.Link},
		{deep(65), nil, check.Deep},
		{[]thing{dir(0), doc(1, "some")}, nil, check.Orphan},
		{[]thing{dir(0), dir(79)}, nil, check.Orphan},
	} {
		l, _, _ := laid(t, chance(uint64(k)), g, c.things...)
		for _, w := range c.turn {
			l[w] ^= 1 << 40
		}
		if f := check.Judge(pm.Of(l)); f != c.want {
			t.Fatal(k, check.Name(f))
		}
		maps, records := unlike(t, g, l)
		for _, m := range maps {
			for _, x := range records {
				mustRefuse(t, with(with(l, bitmapAt(g), m...), recordAt, x...))
			}
		}
	}
	l, used, _ := laid(t, chance(6), g, deep(64)...)
	mustRecover(t, pm.Of(turned(l, [2]int{bitmapAt(g), 4})), g, used)
}

// Each bit of a whole device is turned: where it stands tells whether the device is sound still, and what is written.
func TestEachBit(t *testing.T) {
	g := geometry.Geometry{Blocks: 30, Inodes: 8, Size: 64}
	l, used, slots := laid(t, chance(7), g, shelved()...)
	dirs := map[int]bool{} // the blocks of directories: those of all others may have any bytes
	for b := range g.Blocks {
		if used.Has(b) && check.Judge(pm.Of(turned(l, [2]int{blockAt(g, b), 9}))) == check.Folder {
			dirs[b] = true
		}
	}
	if len(dirs) != 5 { // three entries of inode 0, two of inode 3
		t.Fatal(len(dirs))
	}
	for w := range l {
		sound := true
		switch {
		case w < recordAt, inodeAt(0) <= w && w < slotAt(g, 0):
			sound = false
		case slotAt(g, 0) <= w && w < slotAt(g, g.Blocks):
			sound = !slots[w-slotAt(g, 0)]
		case w >= blockAt(g, 0):
			sound = !dirs[(w-blockAt(g, 0))*8/g.Size]
		}
		for bit := range 64 {
			bad := turned(l, [2]int{w, bit})
			if !sound {
				mustRefuse(t, bad)
				continue
			}
			d := pm.Of(bad)
			r, e := Recover(d)
			steps, stores := 0, 0
			if recordAt <= w && w < inodeAt(0) || w == bitmapAt(g) {
				steps, stores, bad = 3, 1, l
			}
			if e != api.OK || r.Bits+r.Words != stores || d.Steps() != steps || !d.Same(pm.Of(bad)) {
				t.Fatal(w, bit, r, e, d.Steps())
			}
		}
	}
}

// A superblock of another geometry, and one alone, whatever its record is.
func TestOtherGeometries(t *testing.T) {
	l, _ := shelf(t, small())
	full := recordOf(t, record.Record{Count: 1})
	for _, g := range []geometry.Geometry{{Blocks: 78, Inodes: 7, Size: 64}, {Blocks: 70, Inodes: 8, Size: 64}, {Blocks: 70, Inodes: 7, Size: 128}} {
		head, e := super.Encode(g)
		if e != api.OK {
			t.Fatal(g)
		}
		mustRefuse(t, with(l, 0, head...))
		mustRefuse(t, with(with(l, 0, head...), recordAt, full...))
		blank := append(head, make([]uint64, g.Words()-8)...)
		mustRefuse(t, blank)
		mustRefuse(t, with(blank, recordAt, full...))
	}
}
