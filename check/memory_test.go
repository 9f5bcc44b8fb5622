package check

import (
	"maps"
	"slices"
	"testing"

	"cantle/api"
	"cantle/geometry"
	"cantle/pm"
	"cantle/super"
	"cantle/tree"
)

// said is what all calls answer of a device.
type said struct {
	fault  Fault
	sound  []tree.Item
	check  []tree.Item
	where  map[string]int
	errors [3]api.Errno
}

// ask asks them.
func ask(d *pm.Device) said {
	s := said{fault: Judge(d)}
	var x *tree.Tree
	if x, s.errors[0] = Sound(d); x != nil {
		s.sound = x.All()
	}
	if x, s.errors[1] = Check(d); x != nil {
		s.check = x.All()
	}
	s.where, s.errors[2] = Where(d)
	return s
}

// same tells whether two calls said the same.
func (s said) same(o said) bool {
	return s.fault == o.fault && told(s.sound) == told(o.sound) && told(s.check) == told(o.check) && maps.Equal(s.where, o.where) && s.errors == o.errors
}

// mustAsk fails, unless all calls answer, each as the fault says, and not a word or a step of the device is another one.
func mustAsk(t *testing.T, l []uint64) said {
	t.Helper()
	d := pm.Of(l)
	s := ask(d)
	sound := s.fault == None || s.fault == Bitmap || s.fault == Record
	for k, is := range []bool{sound, s.fault == None, sound} {
		if (s.errors[k] == api.OK) != is || !is && s.errors[k] != api.ErrForm {
			t.Fatal(Name(s.fault), s.errors)
		}
	}
	if Name(s.fault) == "" {
		t.Fatal(s.fault)
	}
	if d.Steps() != 0 || !slices.Equal(d.Words(), l) {
		t.Fatal("it was written", d.Steps())
	}
	return s
}

// P19.2: of any words there is an answer

// Words that are anything, without a superblock, and behind one.
func TestAnyWords(t *testing.T) {
	r := chance(20)
	for range 300 {
		l := make([]uint64, r.IntN(300))
		for w := range l {
			l[w] = r.Uint64()
		}
		if s := mustAsk(t, l); s.fault != Super {
			t.Fatal(Name(s.fault))
		}
	}
	for range 300 {
		g := geometry.Geometry{Blocks: 1 + r.IntN(30), Inodes: 1 + r.IntN(8), Size: 64 << r.IntN(3)}
		l, e := super.Encode(g)
		if e != api.OK {
			t.Fatal(g)
		}
		for w := 8; w < g.Words(); w++ {
			l = append(l, r.Uint64()>>r.IntN(64))
		}
		if s := mustAsk(t, l); s.fault != Claims {
			t.Fatal(Name(s.fault))
		}
		clear(l[16 : 16+8*g.Inodes])
		if s := mustAsk(t, l); s.fault != Root {
			t.Fatal(Name(s.fault))
		}
	}
}

// Images some words of which are other ones: anything, a small number, that of another word, noughts.
func TestWordsTurned(t *testing.T) {
	r := chance(21)
	base, _ := shelf(t)
	count := map[Fault]int{}
	for range 6000 {
		l := slices.Clone(base)
		for range 1 + r.IntN(3) {
			w := r.IntN(len(l))
			switch r.IntN(4) {
			case 0:
				l[w] = r.Uint64()
			case 1:
				l[w] = r.Uint64N(300)
			case 2:
				l[w] = l[r.IntN(len(l))]
			case 3:
				l[w] = 0
			}
		}
		count[mustAsk(t, l).fault]++
	}
	for _, f := range []Fault{None, Super, Claims, Folder, Bitmap, Record} {
		if count[f] == 0 {
			t.Error(Name(f), count)
		}
	}
}

// Images parts of which, of a line each, stand where others do: each is some right one, so that more is met than of any words.
func TestLinesTurned(t *testing.T) {
	r := chance(22)
	g := small()
	count := map[Fault]int{}
	for range 6000 {
		l, _ := laid(t, r, g, shelved()...)
		for range 1 + r.IntN(3) {
			switch a, b := r.IntN(g.Inodes), r.IntN(g.Inodes); r.IntN(4) {
			case 0:
				copy(l[16+8*a:24+8*a], l[16+8*b:24+8*b])
			case 1:
				l[slotAt(g, a)] = l[slotAt(g, b)]
			case 2:
				copy(l[blockAt(g, a):blockAt(g, a+1)], l[blockAt(g, b):blockAt(g, b+1)])
			case 3:
				clear(l[16+8*a : 24+8*a])
			}
		}
		count[mustAsk(t, l).fault]++
	}
	for _, f := range []Fault{None, Claims, Root, Folder, Link, Orphan, Bitmap} {
		if count[f] == 0 {
			t.Error(Name(f), count)
		}
	}
}

// P19.2: nothing is written

// No call makes a step, and nothing of what can be told of the device is another one behind it: fuses, what is pending, what lasts. What is pending is read as it is seen.
func TestNothingIsWritten(t *testing.T) {
	for _, w := range []int{12, bitmapAt(small()), 16, 3, blockAt(small(), 19)} {
		for fuse := -1; fuse < 3; fuse++ {
			l, _ := shelf(t)
			d := pm.Of(l)
			d.Store(w, 5)
			d.Flush(w / 8)
			d.Store(w, 6)
			d.Store(w+1, 7)
			if fuse >= 0 {
				d.Arm(fuse)
			}
			want := d.Copy()
			if got := ask(d); !got.same(ask(pm.Of(want.Words()))) {
				t.Error(w, got)
			}
			if d.Steps() != want.Steps() || d.Stores() != want.Stores() || d.Down() != want.Down() {
				t.Error(d.Steps(), d.Stores(), d.Down())
			}
			for w := range want.Len() {
				if d.Load(w) != want.Load(w) || !slices.Equal(d.May(w), want.May(w)) {
					t.Fatal(w, d.May(w), want.May(w))
				}
			}
			for range 4 {
				if d.Fence() != want.Fence() {
					t.Fatal("another fuse is left")
				}
			}
			if d.Lasting(w) != want.Lasting(w) {
				t.Error(d.Lasting(w))
			}
		}
	}
}

// P19.2: answers are new memory

// What was answered first is changed; a second answer is as the first one was.
func TestAnswersAreNewMemory(t *testing.T) {
	l, _ := shelf(t)
	d := pm.Of(l)
	want := ask(d)
	for _, call := range []func(*pm.Device) (*tree.Tree, api.Errno){Sound, Check} {
		x, _ := call(d)
		x.Write("/one", 0, []byte("else"))
		x.Write("/long", 100, []byte("else"))
		x.Unlink("/d/none")
		x.Create("/d/e/new")
	}
	m, _ := Where(d)
	clear(m)
	m["/d"], m["/x"] = 7, 8
	if got := ask(d); !got.same(want) {
		t.Error(got, want)
	}
	if !slices.Equal(d.Words(), l) {
		t.Error("the device is another one")
	}
}

// An answer stays, when the device is stored to, and when others are asked.
func TestAnswersStay(t *testing.T) {
	l, _ := shelf(t)
	d := pm.Of(l)
	want := ask(d)
	sound, _ := Sound(d)
	check, _ := Check(d)
	where, _ := Where(d)
	for w := 8; w < d.Len(); w++ {
		d.Store(w, 1<<40+5)
	}
	ask(d)
	if told(sound.All()) != told(want.sound) || told(check.All()) != told(want.check) || !maps.Equal(where, want.where) {
		t.Error(told(sound.All()), where)
	}
	if f := Judge(d); f != Claims {
		t.Error("what is told is not what the device has now", Name(f))
	}
}
