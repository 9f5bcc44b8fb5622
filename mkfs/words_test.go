package mkfs

import (
	"math"
	"slices"
	"testing"

	"cantle/api"
	"cantle/check"
	"cantle/geometry"
	"cantle/pm"
	"cantle/super"
)

// P21.1, P21.4: Words and Make

// The chapter's example, each word by hand.
func TestExample(t *testing.T) {
	l, e := Words(small())
	if e != api.OK || len(l) != 144 {
		t.Fatal(e, len(l))
	}
	said := map[int]uint64{0: 0x3130454c544e4143, 1: 10 + 3<<16 + 64<<32, 7: headOf(small())[7], 16: 2, 23: summed(2, 0, 0, 0, 0, 0, 0, 0)[7]}
	for w, x := range l {
		if x != said[w] {
			t.Errorf("word %d: %x, want %x", w, x, said[w])
		}
	}
	if said[7] == 0 || said[23] == 0 || said[7] > math.MaxUint32 {
		t.Error(said)
	}
	d, e := Make(small())
	if e != api.OK || d.Len() != 144 {
		t.Fatal(e)
	}
	mustBeEmpty(t, d, small())
}

// Words and devices of many geometries: as many as the parts have, and a new device, all of whose words last.
func TestOrdinary(t *testing.T) {
	for _, g := range ordinary() {
		l, e := Words(g)
		if e != api.OK || len(l) != g.Words() || !slices.Equal(l, emptyOf(g)) {
			t.Fatalf("%+v: %d, %d words", g, e, len(l))
		}
		d, e := Make(g)
		if e != api.OK || d.Steps() != 0 || d.Stores() != 0 || d.Down() {
			t.Fatalf("%+v: %d, %d steps", g, e, d.Steps())
		}
		mustBeEmpty(t, d, g)
		mustLast(t, d)
		if said, e := super.Read(d); said != g || e != api.OK {
			t.Fatalf("%+v: %+v, %d", g, said, e)
		}
		if where, e := check.Where(d); len(where) != 1 || where["/"] != 0 || e != api.OK {
			t.Fatalf("%+v: %v, %d", g, where, e)
		}
		if n := d.Crash(1, 2, 3); n != 0 || !slices.Equal(d.Words(), l) {
			t.Fatalf("%+v: %d words may be lost", g, n)
		}
	}
}

// A geometry whose superblock's sum is 0: it is laid as any other one.
func TestUnsummed(t *testing.T) {
	g := unsummed()
	l, e := Words(g)
	if e != api.OK || l[0] == 0 || l[1] == 0 || l[7] != 0 {
		t.Fatal(e, l[:8])
	}
}

// As many words as there may be.
func TestMostWords(t *testing.T) {
	g := geometry.Geometry{Blocks: 8173, Inodes: 1, Size: 4096}
	for g.Inodes = 1; wordsOf(g) < api.MaxWords; g.Inodes++ {
	}
	if wordsOf(g) != api.MaxWords {
		t.Fatal(wordsOf(g))
	}
	d, e := Make(g)
	if e != api.OK || d.Len() != api.MaxWords || !slices.Equal(d.Words(), emptyOf(g)) || check.Judge(d) != check.None {
		t.Fatal(e)
	}
	g.Inodes++
	if l, e := Words(g); l != nil || e != api.ErrArg {
		t.Error(len(l), e)
	}
}

// Geometries that may not be have no words and no device.
func TestMayNot(t *testing.T) {
	for _, g := range mayNot() {
		if l, e := Words(g); l != nil || e != api.ErrArg {
			t.Errorf("%+v: %d words, %d", g, len(l), e)
		}
		if d, e := Make(g); d != nil || e != api.ErrArg {
			t.Errorf("%+v: %v, %d", g, d, e)
		}
	}
}

// Each answer is new memory: what is done to one, its spare room too, no other one tells.
func TestNewMemory(t *testing.T) {
	g := small()
	l, _ := Words(g)
	d, _ := Make(g)
	also, _ := Make(g)
	for w := range l {
		l[w] = ^l[w]
		d.Store(w, 1<<63)
	}
	_ = append(l, 1, 2, 3)
	mustBeEmpty(t, also, g)
	mustLast(t, also)
	if again, e := Words(g); e != api.OK || !slices.Equal(again, emptyOf(g)) {
		t.Error("the words are other ones")
	}
	again, e := Make(g)
	if e != api.OK {
		t.Fatal(e)
	}
	mustBeEmpty(t, again, g)
	f := pm.New(g.Words())
	if e := Format(f, g); e != api.OK {
		t.Fatal(e)
	}
	mustBeEmpty(t, f, g)
	f.Store(20, 7)
	mustBeEmpty(t, also, g)
	if again, e := Words(g); e != api.OK || !slices.Equal(again, emptyOf(g)) {
		t.Error("the words are other ones behind Format")
	}
}
