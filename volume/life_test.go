package volume

import (
	"math/rand/v2"
	"slices"
	"testing"

	"cantle/api"
	"cantle/bitmap"
	"cantle/geometry"
	"cantle/inode"
	"cantle/pm"
	"cantle/record"
	"cantle/slot"
)

// kept is what a volume should have, part by part, as it was set.
type kept struct {
	inodes []inode.Inode
	slots  []slot.Slot
	blocks [][]byte
	used   *bitmap.Map
	move   record.Record
	state  record.State
}

// keptOf is what a device of noughts has.
func keptOf(g geometry.Geometry) *kept {
	k := &kept{slots: make([]slot.Slot, g.Blocks), used: bitmap.New(g.Blocks)}
	for range g.Inodes {
		k.inodes = append(k.inodes, inode.None())
	}
	for range g.Blocks {
		k.blocks = append(k.blocks, make([]byte, g.Size))
	}
	return k
}

// mustHave fails, unless a volume has just that.
func (k *kept) mustHave(t *testing.T, v *Volume) {
	t.Helper()
	for i, want := range k.inodes {
		if n, e := v.Inode(i); n != want || e != api.OK {
			t.Fatalf("inode %d: %+v, %d, want %+v", i, n, e, want)
		}
	}
	for s, want := range k.slots {
		wantE := api.OK
		if want.Count == 0 { // never set: a word of 0 is none's
			wantE = api.ErrForm
		}
		if x, e := v.Slot(s); x != want || e != wantE {
			t.Fatalf("slot %d: %+v, %d, want %+v", s, x, e, want)
		}
	}
	for b, want := range k.blocks {
		if l, e := v.Block(b); string(l) != string(want) || e != api.OK {
			t.Fatalf("block %d: %x, %d, want %x", b, l, e, want)
		}
	}
	if m, e := v.Bitmap(); e != api.OK || !m.Same(k.used) {
		t.Fatalf("the map: %v, %d", m, e)
	}
	if r, s := v.Record(); r != k.move || s != k.state {
		t.Fatalf("the record: %+v, %d, want %+v, %d", r, s, k.move, k.state)
	}
}

// write sets something through a volume, and here.
func (k *kept) write(t *testing.T, r *rand.Rand, v *Volume) {
	t.Helper()
	g := v.Geometry()
	var e api.Errno
	switch r.IntN(7) {
	case 0:
		i := r.IntN(g.Inodes)
		k.inodes[i] = inodes()[r.IntN(len(inodes()))]
		e = v.SetInode(i, k.inodes[i])
	case 1:
		s := r.IntN(g.Blocks)
		k.slots[s] = slots()[r.IntN(len(slots()))]
		e = v.SetSlot(s, k.slots[s])
	case 2:
		b := r.IntN(g.Blocks)
		data := bytesOf(r.IntN(g.Size + 1))
		k.blocks[b] = append(slices.Clone(data), make([]byte, g.Size-len(data))...)
		e = v.SetBlock(b, data)
	case 3:
		for range 5 {
			k.used.Put(r.IntN(g.Blocks))
			k.used.Drop(r.IntN(g.Blocks))
		}
		_, e = v.SetBitmap(k.used)
	case 4:
		k.move, k.state = records()[r.IntN(len(records()))], record.Full
		e = v.SetRecord(k.move)
	case 5:
		k.move, k.state = record.Record{}, record.Empty
		_, e = v.ClearRecord()
	case 6:
		e = v.Sync()
	}
	if e != api.OK {
		t.Fatal(e)
	}
}

// P15.4

func TestWhatIsWrittenIsReadAndNothingElseChanges(t *testing.T) {
	for seed, g := range small()[:5] {
		r := chance(uint64(seed))
		d := blank(g)
		volumes := []*Volume{opened(t, d), opened(t, d)}
		k := keptOf(g)
		for range 150 {
			k.write(t, r, volumes[r.IntN(2)])
			k.mustHave(t, volumes[0])
			k.mustHave(t, volumes[1])
		}
		if !slices.Equal(d.Words()[:8], superOf(g)) {
			t.Error("the superblock changed")
		}
	}
}

func TestWordsThatFillLinesStay(t *testing.T) {
	g := geometry.Geometry{Blocks: 3, Inodes: 2, Size: 64}
	d := full(g)
	before := d.Words()
	v := opened(t, d)
	for s := range g.Blocks {
		v.SetSlot(s, slots()[1])
	}
	m := bitmap.New(g.Blocks)
	m.Range(0, 3)
	if n, e := v.SetBitmap(m); n != 1 || e != api.OK {
		t.Error(n, e)
	}
	after := d.Words()
	if !slices.Equal(after[35:40], before[35:40]) || !slices.Equal(after[41:48], before[41:48]) || !slices.Equal(after[48:], before[48:]) || after[40] != 7 {
		t.Error("others changed")
	}
}

// writes are all calls that write, each of a volume of 65 blocks that had nothing but noughts, or had all of it.
func writes(t *testing.T) []func(v *Volume) api.Errno {
	t.Helper()
	m := bitmap.New(65)
	m.Put(0, 5, 64)
	return []func(v *Volume) api.Errno{
		func(v *Volume) api.Errno { return v.SetInode(1, inodes()[3]) },
		func(v *Volume) api.Errno { return v.SetSlot(64, slots()[1]) },
		func(v *Volume) api.Errno { _, e := v.SetBitmap(m); return e },
		func(v *Volume) api.Errno { return v.SetRecord(records()[1]) },
		func(v *Volume) api.Errno { _, e := v.ClearRecord(); return e },
		func(v *Volume) api.Errno { return v.SetBlock(64, bytesOf(61)) },
	}
}

// Behind a crash without a Sync each word is the old or the new one; behind a Sync it is the new one.
func TestWritesBehindACrash(t *testing.T) {
	g := geometry.Geometry{Blocks: 65, Inodes: 4, Size: 64}
	for k, write := range writes(t) {
		before := full(g)
		whole := before.Copy()
		if e := write(opened(t, whole)); e != api.OK {
			t.Fatal(e)
		}
		for seed := range 20 {
			r := chance(uint64(100*k + seed))
			d := before.Copy()
			fuse := r.IntN(whole.Steps() + 2)
			d.Arm(fuse)
			e := write(opened(t, d))
			if (e == api.OK) != (fuse >= whole.Steps()) || e != api.OK && e != api.ErrDown {
				t.Fatalf("write %d of %d steps: %d", k, fuse, e)
			}
			for range 4 {
				c := d.Copy()
				c.Crash(byte(r.Uint32()), byte(r.Uint32()), byte(r.Uint32()), byte(r.Uint32()), byte(r.Uint32()), byte(r.Uint32()), byte(r.Uint32()), byte(r.Uint32()))
				for w := range c.Len() {
					if x := c.Load(w); x != before.Load(w) && x != whole.Load(w) {
						t.Fatalf("write %d of %d steps: word %d is %x behind a crash", k, fuse, w, x)
					}
				}
			}
		}
		mustLast(t, whole)
	}
}

// mustLast fails, unless behind a Sync all that is seen lasts, whatever a crash does.
func mustLast(t *testing.T, d *pm.Device) {
	t.Helper()
	want := d.Words()
	if e := opened(t, d).Sync(); e != api.OK {
		t.Fatal(e)
	}
	if n := d.Crash(); n != 0 || !slices.Equal(d.Words(), want) {
		t.Fatalf("behind a Sync %d words may be lost", n)
	}
}

// A volume goes on behind a crash, with what the crash left.
func TestAVolumeGoesOnBehindACrash(t *testing.T) {
	g := geometry.Geometry{Blocks: 65, Inodes: 4, Size: 64}
	d := blank(g)
	v := opened(t, d)
	v.SetSlot(3, slots()[1])
	v.Sync()
	v.SetSlot(3, slots()[0])
	d.Arm(3)
	if e := v.SetRecord(records()[0]); e != api.ErrDown {
		t.Error(e)
	}
	if _, s := v.Record(); s != record.Torn {
		t.Error(s)
	}
	if e := v.SetSlot(3, slots()[3]); e != api.ErrDown {
		t.Error(e)
	}
	d.Crash()
	if x, e := v.Slot(3); x != slots()[1] || e != api.OK {
		t.Error(x, e)
	}
	if _, s := v.Record(); s != record.Empty {
		t.Error(s)
	}
	if e := v.SetSlot(3, slots()[3]); e != api.OK {
		t.Error(e)
	}
	if x, e := v.Slot(3); x != slots()[3] || e != api.OK {
		t.Error(x, e)
	}
}
