package recover

import (
	"slices"
	"testing"

	"cantle/api"
	"cantle/check"
	"cantle/geometry"
	"cantle/pm"
	"cantle/record"
	"cantle/tree"
)

// P20.3: what is there behind it, and behind crashes

// survivors are the devices that a crash of one may leave, each by a list of choices, counted up like digits.
func survivors(d *pm.Device) []*pm.Device {
	var counts []int
	for w := range d.Len() {
		if n := len(d.May(w)); n > 1 {
			counts = append(counts, n)
		}
	}
	choices := make([]byte, len(counts))
	var l []*pm.Device
	for {
		c := d.Copy()
		c.Crash(choices...)
		l = append(l, c)
		k := 0
		for ; k < len(counts); k++ {
			if choices[k]++; int(choices[k]) < counts[k] {
				break
			}
			choices[k] = 0
		}
		if k == len(counts) {
			return l
		}
	}
}

// aside are a device's words but the bitmap's and the record's.
func aside(g geometry.Geometry, d *pm.Device) []uint64 {
	l := d.Words()
	clear(l[recordAt : recordAt+8])
	clear(l[bitmapAt(g) : bitmapAt(g)+bitWords(g)])
	return l
}

// mustBeSound fails, unless a device is sound, of this tree, and has these words aside.
func mustBeSound(t *testing.T, d *pm.Device, g geometry.Geometry, x *tree.Tree, words []uint64) {
	t.Helper()
	y, e := check.Sound(d)
	if e != api.OK || !y.Same(x) {
		t.Fatalf("it isn't sound of the tree any more: %d, %s", e, check.Name(check.Judge(d)))
	}
	if !slices.Equal(aside(g, d), words) {
		t.Fatal("another word was written")
	}
	if needs, e := Needs(d); e != api.OK || needs != (check.Judge(d) != check.None) {
		t.Fatal(needs, e)
	}
}

// mustMend fails, unless a device that lasts is made an image of a tree by a Recover that isn't cut off: all words last then, each may hold one value alone, and it is an image behind a crash, too; and a second one does nothing.
func mustMend(t *testing.T, d *pm.Device, g geometry.Geometry, x *tree.Tree, words []uint64) {
	t.Helper()
	d = d.Copy()
	if _, e := Recover(d); e != api.OK {
		t.Fatal(e)
	}
	for w := range d.Len() {
		if l := d.May(w); len(l) != 1 || l[0] != d.Load(w) || d.Lasting(w) != l[0] {
			t.Fatalf("word %d may hold %x", w, l)
		}
	}
	mustBeImage(t, d, g, x, words)
	if n := d.Crash(1, 1, 1, 1); n != 0 {
		t.Fatal(n, "words may be lost")
	}
	mustBeImage(t, d, g, x, words)
}

// mustBeImage fails, unless a device is an image of a tree, of which a Recover does nothing.
func mustBeImage(t *testing.T, d *pm.Device, g geometry.Geometry, x *tree.Tree, words []uint64) {
	t.Helper()
	if y, e := check.Check(d); e != api.OK || !y.Same(x) {
		t.Fatalf("it is no image of the tree: %d, %s", e, check.Name(check.Judge(d)))
	}
	mustBeSound(t, d, g, x, words)
	steps := d.Steps()
	if r, e := Recover(d); r != (Report{}) || e != api.OK || d.Steps() != steps {
		t.Fatalf("a second one: %+v, %d, %d steps", r, e, d.Steps()-steps)
	}
}

// mustEnd fails, unless a device that lasts, and is sound of a tree, ends as an image of it, however Recover is cut off, so many times: behind each number of steps, and by all choices of a crash. It answers how many devices were looked at.
func mustEnd(t *testing.T, d *pm.Device, g geometry.Geometry, x *tree.Tree, words []uint64, times int) int {
	t.Helper()
	mustBeSound(t, d, g, x, words)
	mustMend(t, d, g, x, words)
	looked := 1
	for fuse := 0; times > 0; fuse++ {
		c := armed(d, fuse)
		r, e := Recover(c)
		if e != api.OK && (e != api.ErrDown || r != (Report{}) || !c.Down()) {
			t.Fatalf("fuse %d: %+v, %d", fuse, r, e)
		}
		for _, s := range survivors(c) {
			looked += mustEnd(t, s, g, x, words, times-1)
		}
		if e == api.OK {
			return looked
		}
	}
	return looked
}

// Each pair of a bitmap and a record, cut off once by all ways.
func TestCutOffOnce(t *testing.T) {
	g := small()
	l, _ := shelf(t, g)
	x := shelvedTree(t)
	maps, records := unlike(t, g, l)
	for _, m := range maps {
		for _, line := range records[:8] {
			d := pm.Of(with(with(l, bitmapAt(g), m...), recordAt, line...))
			mustEnd(t, d, g, x, aside(g, d), 1)
		}
	}
}

// A bitmap of two wrong words and a record that is Full, cut off three times by all ways, one behind the other.
func TestCutOffAgainAndAgain(t *testing.T) {
	g := small()
	l, _ := shelf(t, g)
	bad := with(turned(l, [2]int{bitmapAt(g), 3}, [2]int{bitmapAt(g) + 1, 4}), recordAt, recordOf(t, record.Record{Slot: 1, From: 2, To: 3, Count: 4})...)
	d := pm.Of(bad)
	if n := mustEnd(t, d, g, shelvedTree(t), aside(g, d), 2); n < 500 {
		t.Error(n)
	}
	d = pm.Of(with(bad, recordAt+1, 0))
	if n := mustEnd(t, d, g, shelvedTree(t), aside(g, d), 3); n < 2000 {
		t.Error(n)
	}
}

// By chance: bitmaps with many words wrong in two lines, and records of anything, cut off many times; choices that reach beyond the values.
func TestCutOffByChance(t *testing.T) {
	g := wide()
	x := shelvedTree(t)
	r := chance(8)
	cuts := 0
	for range 300 {
		l, _, _ := laid(t, r, g, shelved()...)
		for range r.IntN(12) {
			l[bitmapAt(g)+r.IntN(bitWords(g))] = r.Uint64()
		}
		for range r.IntN(9) {
			l[recordAt+r.IntN(8)] = r.Uint64()
		}
		d := pm.Of(l)
		words := aside(g, d)
		for range 6 {
			d.Arm(r.IntN(12))
			if report, e := Recover(d); e == api.ErrDown {
				cuts++
				if report != (Report{}) {
					t.Fatal(report)
				}
			} else if e != api.OK {
				t.Fatal(e)
			}
			choices := make([]byte, r.IntN(20))
			for k := range choices {
				choices[k] = byte(r.Uint32())
			}
			d.Crash(choices...)
			mustBeSound(t, d, g, x, words)
		}
		mustMend(t, d, g, x, words)
	}
	if cuts < 200 {
		t.Error(cuts)
	}
}

// Words of the bitmap and of the record that don't last ahead of it, each of many values: behind each crash it is sound all the same.
func TestCutOffWithWhatIsPending(t *testing.T) {
	g := small()
	l, _ := shelf(t, g)
	x, first := shelvedTree(t), bitmapAt(g)
	for k, stores := range [][]step{
		{{"store", first, 0}, {"store", first, 1}, {"store", recordAt, 1}},
		{{"store", first, 0}, {"flush", first / 8, 0}, {"store", first, l[first]}, {"store", first + 1, 1 << 63}},
		{{"store", recordAt, 1}, {"store", recordAt, 0}, {"store", recordAt + 7, 3}, {"flush", 1, 0}},
		{{"store", first + 1, 0}, {"store", recordAt, 1}, {"flush", 1, 0}, {"fence", 0, 0}, {"store", recordAt, 2}},
	} {
		d := pm.Of(l)
		walk(d, stores)
		words := aside(g, d)
		for fuse := 0; ; fuse++ {
			c := armed(d, fuse)
			_, e := Recover(c)
			for _, s := range survivors(c) {
				mustEnd(t, s, g, x, words, 1)
			}
			if e == api.OK {
				mustBeImage(t, c, g, x, words)
				break
			}
			if e != api.ErrDown {
				t.Fatal(k, e)
			}
		}
	}
}

// Of any tree that is sound: that of a device of a directory alone, too.
func TestOtherTrees(t *testing.T) {
	for k, c := range []struct {
		things []thing
		items  []tree.Item
	}{
		{[]thing{dir(0)}, nil},
		{[]thing{dir(0, to("a", 6)), doc(6, "b")}, []tree.Item{{Path: "/a", Data: []byte("b")}}},
		{[]thing{dir(0, to("b", 1), to("a", 2)), dir(1, to("c", 3)), doc(2, ""), dir(3)}, []tree.Item{{Path: "/a"}, {Path: "/b", Dir: true}, {Path: "/b/c", Dir: true}}},
	} {
		g := small()
		x, e := tree.Of(c.items...)
		if e != api.OK {
			t.Fatal(k, e)
		}
		l, used, _ := laid(t, chance(uint64(k)), g, c.things...)
		d := pm.Of(with(turned(l, [2]int{bitmapAt(g) + 1, 63}), recordAt+3, 5))
		mustRecover(t, d, g, used)
		mustEnd(t, d, g, x, aside(g, d), 2)
	}
}
