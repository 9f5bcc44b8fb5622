package claim

import (
	"slices"
	"testing"

	"cantle/api"
	"cantle/bitmap"
	"cantle/inode"
	"cantle/pm"
	"cantle/record"
	"cantle/run"
	"cantle/slot"
)

// shelf is what memory tests are of: files, one of three slots among them.
func shelf() []file {
	return []file{chained(1), filling(64, 3, []int{11, 4}, run.Run{Start: 6, Count: 1}, run.Run{Start: 4, Count: 1}), {number: 4, kind: inode.Dir}}
}

// spoil makes all of a list, its spare room too, something else.
func spoil[T any](l []T, x T) {
	l = l[:cap(l)]
	for k := range l {
		l[k] = x
	}
}

// spoilMap makes a map's blocks those that it hadn't.
func spoilMap(m *bitmap.Map) {
	for b := range m.Len() {
		if m.Drop(b) == 0 {
			m.Put(b)
		}
	}
}

// P17.3: answers

// What is told is changed, behind each answer, and what is told then is as it was.
func TestAnswersAreNewMemory(t *testing.T) {
	g := small()
	want := plainOf(g, shelf()...)
	c := scanned(t, laid(t, g, full(t, g), shelf()...))
	for what, change := range map[string]func(){
		"Used": func() { spoil(c.Used(), 2) },
		"a Chain's slots": func() {
			for i := range g.Inodes {
				spoil(c.Chain(i).Slots, 5)
			}
		},
		"a Chain's parts": func() {
			for i := range g.Inodes {
				spoil(c.Chain(i).Parts, slot.Slot{Start: 7, Count: 1, Next: 2})
			}
		},
		"Blocks":    func() { spoilMap(c.Blocks()) },
		"Slots":     func() { spoilMap(c.Slots()) },
		"NextSlots": func() { spoil(c.NextSlots(100), 2) },
		"one slot":  func() { spoil(c.NextSlots(1), 2) },
		"a row more": func() {
			l := c.Chain(1)
			_, _ = append(l.Slots, 7), append(l.Parts, slot.Slot{})
			_, _ = append(c.Used(), 7), append(c.NextSlots(2), 7)
		},
	} {
		t.Log(what)
		change()
		mustTell(t, c, want)
	}
}

// An answer stays, whatever is asked and changed behind it.
func TestAnswersStay(t *testing.T) {
	g := small()
	c := scanned(t, laid(t, g, full(t, g), shelf()...))
	used, l, slots, m, of := c.Used(), c.Chain(1), c.NextSlots(4), c.Blocks(), c.Slots()
	same := chained(1).chain()
	spoil(c.Used(), 2)
	spoil(c.Chain(1).Slots, 5)
	spoil(c.Chain(1).Parts, slot.Slot{Start: 7, Count: 1, Next: 2})
	spoil(c.NextSlots(4), 9)
	spoilMap(c.Blocks())
	spoilMap(c.Slots())
	if !slices.Equal(used, []int{1, 3, 4}) || !sameChain(l, same) || !slices.Equal(slots, []int{0, 1, 3, 5}) {
		t.Error(used, l, slots)
	}
	if m.Count() != 7 || m.Words()[0] != 1<<3|1<<8|1<<9|1<<0|1<<1|1<<6|1<<4 || of.Words()[0] != 1<<6|1<<2|1<<9|1<<11|1<<4 {
		t.Error(m.Words(), of.Words())
	}
	// A Chain's two rows, and the rows of two chains, are apart.
	spoil(l.Slots, 5)
	if !slices.Equal(l.Parts, same.Parts) {
		t.Error(l.Parts)
	}
	spoil(l.Parts, slot.Slot{})
	if !sameChain(c.Chain(1), same) || !sameChain(c.Chain(3), shelf()[1].chain()) {
		t.Error(c.Chain(1), c.Chain(3))
	}
}

func TestTwoScansAreApart(t *testing.T) {
	g := small()
	v := opened(t, pm.Of(laid(t, g, full(t, g), shelf()...)))
	a, e := Scan(v)
	b, f := Scan(v)
	if e != api.OK || f != api.OK || a == b {
		t.Fatal(e, f)
	}
	spoilMap(a.Blocks())
	spoil(a.Chain(1).Slots, 5)
	spoil(a.Used(), 5)
	mustTell(t, b, plainOf(g, shelf()...))
	mustTell(t, a, plainOf(g, shelf()...))
}

// P17.1: as they are then

// The volume's inodes, slots, map, record and blocks are written anew, each as something else, one by one, and all claims stay.
func TestClaimsAreAsTheVolumeWasThen(t *testing.T) {
	g := small()
	want := plainOf(g, shelf()...)
	v := opened(t, pm.Of(laid(t, g, full(t, g), shelf()...)))
	c, e := Scan(v)
	if e != api.OK {
		t.Fatal(e)
	}
	stay := func(e api.Errno) {
		t.Helper()
		if e != api.OK {
			t.Fatal(e)
		}
		mustTell(t, c, want)
	}
	for i := range g.Inodes {
		stay(v.SetInode(i, inode.Inode{Kind: inode.File, Head: 8, Size: 1}))
	}
	for s := range g.Blocks {
		stay(v.SetSlot(s, slot.Slot{Start: s, Count: 1, Next: -1}))
		stay(v.SetBlock(s, []byte("else")))
	}
	m := bitmap.New(g.Blocks)
	m.Range(2, 9)
	_, e = v.SetBitmap(m)
	stay(e)
	stay(v.SetRecord(record.Record{Slot: 1, From: 2, To: 3, Count: 4}))
	stay(v.Sync())
	if d, e := Scan(v); d != nil || e != api.ErrForm { // block 8 is all inodes'
		t.Error(d, e)
	}
	for i := range g.Inodes {
		stay(v.SetInode(i, inode.None()))
	}
	d, e := Scan(v)
	stay(e)
	mustTell(t, d, without(g))
}

// What a failed Scan met is nowhere behind it.
func TestAScanBehindOneWithoutClaims(t *testing.T) {
	g := small()
	d := pm.Of(laid(t, g, full(t, g), shelf()...))
	v := opened(t, d)
	if e := v.SetInode(4, inode.Inode{Kind: inode.File, Head: 6, Size: 5 * 64}); e != api.OK {
		t.Fatal(e)
	}
	if c, e := Scan(v); c != nil || e != api.ErrForm {
		t.Fatal(c, e)
	}
	if e := v.SetInode(4, inode.Inode{Kind: inode.Dir, Head: -1}); e != api.OK {
		t.Fatal(e)
	}
	c, e := Scan(v)
	if e != api.OK {
		t.Fatal(e)
	}
	mustTell(t, c, plainOf(g, shelf()...))
}

// P17.1: Scan makes no step, and changes nothing of what can be told of the device.
func TestScanMakesNoStep(t *testing.T) {
	g := small()
	for fuse := -1; fuse < 3; fuse++ {
		d := pm.Of(laid(t, g, full(t, g), shelf()...))
		d.Store(slotAt(g, 7), 5)
		d.Flush(slotAt(g, 7) / 8)
		d.Store(slotAt(g, 8), 6)
		if fuse >= 0 {
			d.Arm(fuse)
		}
		want := d.Copy()
		c, e := Scan(opened(t, d))
		if e != api.OK {
			t.Fatal(e)
		}
		mustTell(t, c, plainOf(g, shelf()...))
		if d.Steps() != want.Steps() || d.Stores() != want.Stores() || d.Down() != want.Down() {
			t.Error(d.Steps(), d.Stores(), d.Down())
		}
		for w := range want.Len() {
			if d.Load(w) != want.Load(w) || !slices.Equal(d.May(w), want.May(w)) {
				t.Fatal(w, d.May(w), want.May(w))
			}
		}
		for range 4 {
			if d.Fence() != want.Fence() {
				t.Fatal("another fuse is left")
			}
		}
		if d.Lasting(slotAt(g, 7)) != want.Lasting(slotAt(g, 7)) {
			t.Error(d.Lasting(slotAt(g, 7)))
		}
	}
}
