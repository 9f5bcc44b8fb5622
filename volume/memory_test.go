package volume

import (
	"slices"
	"testing"

	"cantle/api"
	"cantle/bitmap"
	"cantle/geometry"
)

// shelf is what memory tests are of.
func shelf() geometry.Geometry { return geometry.Geometry{Blocks: 65, Inodes: 4, Size: 64} }

// P15.4: what is handed in

func TestABlocksBytesArentKeptOrChanged(t *testing.T) {
	for _, count := range []int{0, 1, 5, 8, 61, 64} {
		v := opened(t, full(shelf()))
		room := bytesOf(200)
		data := room[:count]
		if e := v.SetBlock(7, data); e != api.OK {
			t.Fatal(e)
		}
		if !slices.Equal(room, bytesOf(200)) {
			t.Errorf("of %d bytes: they, or their spare room, changed", count)
		}
		want := append(bytesOf(count), make([]byte, 64-count)...)
		for k := range room {
			room[k] = 0xEE
		}
		if l, e := v.Block(7); e != api.OK || !slices.Equal(l, want) {
			t.Errorf("of %d bytes: %x, %d", count, l, e)
		}
	}
}

func TestBytesThatAreTooManyArentChanged(t *testing.T) {
	v := opened(t, full(shelf()))
	room := bytesOf(200)
	if v.SetBlock(7, room[:65]) != api.ErrArg || v.SetBlock(65, room[:5]) != api.ErrRange {
		t.Error("there is no error")
	}
	v.Device().Arm(3)
	if v.SetBlock(7, room[:61]) != api.ErrDown {
		t.Error("it isn't down")
	}
	if !slices.Equal(room, bytesOf(200)) {
		t.Error("they changed")
	}
}

func TestAMapIsntKeptOrChanged(t *testing.T) {
	v := opened(t, full(shelf()))
	m := bitmap.New(65)
	m.Put(1, 64)
	same := m.Copy()
	if n, e := v.SetBitmap(m); n != 2 || e != api.OK {
		t.Fatal(n, e)
	}
	if !m.Same(same) {
		t.Error("it changed")
	}
	m.Put(2, 3)
	m.Drop(64)
	if got, e := v.Bitmap(); e != api.OK || !got.Same(same) {
		t.Error("it is kept")
	}
	v.Device().Arm(1)
	if n, e := v.SetBitmap(m); n != 0 || e != api.ErrDown {
		t.Error(n, e)
	}
	if m.Count() != 3 || !m.Has(1) || !m.Has(2) || !m.Has(3) {
		t.Error("it changed beside an error")
	}
}

// P15.4: answers

func TestABlocksAnswerIsNewMemory(t *testing.T) {
	v := opened(t, full(shelf()))
	words := v.Device().Words()
	a, _ := v.Block(7)
	b, _ := v.Block(7)
	want := slices.Clone(b)
	for k := range a {
		a[k] ^= 0xFF
	}
	a = append(a, 1)
	clear(a[:cap(a)])
	if c, e := v.Block(7); e != api.OK || !slices.Equal(b, want) || !slices.Equal(c, want) {
		t.Error("answers share their memory")
	}
	if !slices.Equal(v.Device().Words(), words) {
		t.Error("the device changed")
	}
}

func TestABitmapsAnswerIsNewMemory(t *testing.T) {
	v := opened(t, blank(shelf()))
	words := v.Device().Words()
	a, _ := v.Bitmap()
	b, _ := v.Bitmap()
	a.Range(0, 65)
	if c, e := v.Bitmap(); e != api.OK || b.Count() != 0 || c.Count() != 0 {
		t.Error("answers share their memory")
	}
	if !slices.Equal(v.Device().Words(), words) {
		t.Error("the device changed")
	}
}

func TestVolumesShareTheDeviceAlone(t *testing.T) {
	d := blank(shelf())
	v, w := opened(t, d), opened(t, d)
	if v.Device() != d || w.Device() != d {
		t.Fatal("the device isn't its own")
	}
	if e := v.SetSlot(3, slots()[1]); e != api.OK {
		t.Fatal(e)
	}
	if x, e := w.Slot(3); x != slots()[1] || e != api.OK {
		t.Error(x, e)
	}
	apart := opened(t, d.Copy())
	if e := v.SetSlot(3, slots()[0]); e != api.OK {
		t.Fatal(e)
	}
	if x, e := apart.Slot(3); x != slots()[1] || e != api.OK {
		t.Error("a copy isn't apart: ", x, e)
	}
}

// Examples

func TestExamples(t *testing.T) {
	d := blank(shelf())
	if e := opened(t, d).SetSlot(3, slots()[1]); e != api.OK || d.Stores() != 1 || d.Steps() != 2 {
		t.Error(e, d.Stores(), d.Steps())
	}
}
