package folder

import (
	"slices"
	"testing"

	"cantle/api"
	"cantle/claim"
	"cantle/entry"
	"cantle/geometry"
	"cantle/inode"
	"cantle/volume"
)

// spoil makes all of a list, its spare room too, something else.
func spoil[T any](l []T, x T) {
	l = l[:cap(l)]
	for k := range l {
		l[k] = x
	}
}

// said is what all calls of one inode answer.
type said struct {
	bytes, stay []byte
	entries     []entry.Entry
	errors      [2]api.Errno
	is          bool
}

// ask asks them.
func ask(o device, i int) said {
	var s said
	s.bytes, s.errors[0] = Bytes(o.v, o.c, i)
	s.stay, s.is = Stay(o.v, o.c, i)
	s.entries, s.errors[1] = Entries(o.v, o.c, i)
	return s
}

// copied is the same, apart.
func (s said) copied() said {
	s.bytes, s.stay, s.entries = slices.Clone(s.bytes), slices.Clone(s.stay), slices.Clone(s.entries)
	return s
}

// same tells whether two calls said the same.
func (s said) same(o said) bool {
	return slices.Equal(s.bytes, o.bytes) && slices.Equal(s.stay, o.stay) && slices.Equal(s.entries, o.entries) && s.errors == o.errors && s.is == o.is
}

// P18.3: answers are new memory

// What was answered is changed, and a second answer is as the first one was, and so is the volume.
func TestAnswersAreNewMemory(t *testing.T) {
	l := shelf(t)
	o := opened(t, l)
	for i := range shelves().Inodes {
		first := ask(o, i)
		want := first.copied()
		spoil(first.bytes, 0x55)
		spoil(first.stay, 0x66)
		spoil(first.entries, entry.Entry{Name: "else", Inode: 7})
		_ = append(append(first.bytes, 1), 2)
		if second := ask(o, i); !second.same(want) {
			t.Errorf("%d: %v, want %v", i, second, want)
		}
		if !slices.Equal(o.d.Words(), l) {
			t.Fatal("the device is another one")
		}
	}
}

// An answer stays, when others are asked and changed, and when the volume is written anew; and what shares an inode's last block shares no memory.
func TestAnswersStay(t *testing.T) {
	g := shelves()
	o := opened(t, shelf(t))
	var first, want []said
	for i := range g.Inodes {
		first = append(first, ask(o, i))
		want = append(want, first[i].copied())
	}
	for i := range g.Inodes {
		other := ask(o, i)
		spoil(other.bytes, 0x55)
		if !slices.Equal(other.stay, want[i].stay) {
			t.Error(i, "what stays was changed with the bytes")
		}
		spoil(other.stay, 0x66)
		spoil(other.entries, entry.Entry{})
	}
	for b := range g.Blocks {
		if e := o.v.SetBlock(b, []byte("else")); e != api.OK {
			t.Fatal(e)
		}
	}
	for i := range first {
		if !first[i].same(want[i]) {
			t.Error(i, first[i], want[i])
		}
	}
}

// Names that are handed in stay as they are, what stands behind them in their list, too.
func TestNamesAreNotChanged(t *testing.T) {
	o := opened(t, shelf(t))
	all := []string{"d", "deep", "f", "spare", "room"}
	for n := range 4 {
		mustWalk(t, o, []int{0, 1, 5, 2}[n], api.OK, all[:n]...)
		if !slices.Equal(all, []string{"d", "deep", "f", "spare", "room"}) {
			t.Fatal(all)
		}
	}
}

// P18.3: nothing is written

// asked asks all calls of all inodes, and of some that there aren't, and some ways.
func asked(o device) {
	for _, i := range append(noneOf(6), 0, 1, 2, 3, 4, 5) {
		ask(o, i)
		for _, name := range []string{"d", "f", "x", ""} {
			Find(o.v, o.c, i, name)
		}
	}
	for _, way := range [][]string{nil, {"d"}, {"d", "deep", "f"}, {"x"}, {"f", "f"}, {"bad", "f"}, {"free", "f"}, {"away", "f"}} {
		Walk(o.v, o.c, way...)
	}
}

// No call makes a step, and nothing of what can be told of the device is another one behind it: fuses, what is pending, what lasts.
func TestNoSteps(t *testing.T) {
	for fuse := -1; fuse < 3; fuse++ {
		o := opened(t, shelf(t))
		first := blockAt(shelves(), 12)
		o.d.Store(first, 5)
		o.d.Flush(first / 8)
		o.d.Store(first+1, 6)
		if fuse >= 0 {
			o.d.Arm(fuse)
		}
		want := o.d.Copy()
		asked(o)
		if o.d.Steps() != want.Steps() || o.d.Stores() != want.Stores() || o.d.Down() != want.Down() {
			t.Error(o.d.Steps(), o.d.Stores(), o.d.Down())
		}
		for w := range want.Len() {
			if o.d.Load(w) != want.Load(w) || !slices.Equal(o.d.May(w), want.May(w)) {
				t.Fatal(w, o.d.May(w), want.May(w))
			}
		}
		for range 4 {
			if o.d.Fence() != want.Fence() {
				t.Fatal("another fuse is left")
			}
		}
		if o.d.Lasting(first) != want.Lasting(first) {
			t.Error(o.d.Lasting(first))
		}
	}
}

// A device that is down answers all the same.
func TestADeviceThatIsDown(t *testing.T) {
	o := opened(t, shelf(t))
	var want []said
	for i := range 6 {
		want = append(want, ask(o, i))
	}
	o.d.Arm(0)
	for i := range 6 {
		if got := ask(o, i); !got.same(want[i]) {
			t.Error(i, got, want[i])
		}
	}
	mustWalk(t, o, 2, api.OK, "d", "deep", "f")
}

// The claims stay what they are.
func TestClaimsStay(t *testing.T) {
	o := opened(t, shelf(t))
	want := opened(t, shelf(t)).c
	asked(o)
	for i := range 6 {
		a, b := o.c.Chain(i), want.Chain(i)
		if o.c.Inode(i) != want.Inode(i) || !slices.Equal(a.Slots, b.Slots) || !slices.Equal(a.Parts, b.Parts) {
			t.Error(i, o.c.Inode(i), a)
		}
	}
	if !o.c.Blocks().Same(want.Blocks()) || !o.c.Slots().Same(want.Slots()) {
		t.Error(o.c.Blocks(), o.c.Slots())
	}
}

// What is told hangs on what the device has now: blocks are read as they are seen, whether or not they last.
func TestBlocksAreReadAsTheyAreSeen(t *testing.T) {
	g := small()
	f := in(2, inode.File, some(100))
	o := opened(t, laid(t, g, full(t, g), f))
	if e := o.v.SetBlock(2, []byte("new")); e != api.OK {
		t.Fatal(e)
	}
	whole := append(append(some(64), "new"...), make([]byte, 61)...)
	mustHave(t, o, 2, whole[:100], whole[100:])
	o.d.Crash()
	if b, e := Bytes(o.v, o.c, 2); e != api.OK || !slices.Equal(b, f.bytes) {
		t.Error(b, e)
	}
	l := in(0, inode.Dir, joined(t, names("a", "b")...))
	o = opened(t, laid(t, g, full(t, g), l))
	if e := o.v.SetBlock(2, joined(t, entry.Entry{Name: "c", Inode: 5})); e != api.OK {
		t.Fatal(e)
	}
	mustEntries(t, o, 0, entry.Entry{Name: "a", Inode: 10}, entry.Entry{Name: "c", Inode: 5})
	mustWalk(t, o, 5, api.OK, "c")
	if e := o.v.SetBlock(2, nil); e != api.OK {
		t.Fatal(e)
	}
	mustErr(t, o, 0, api.ErrForm)
}

// R1: claims of another volume, of other blocks and more or fewer of them, are nothing that the chapter promises of; each call answers.
func TestClaimsOfAnotherVolume(t *testing.T) {
	var all []device
	for _, g := range []geometry.Geometry{{Blocks: 1, Inodes: 1, Size: 64}, {Blocks: 16, Inodes: 6, Size: 4096}, {Blocks: 40, Inodes: 9, Size: 64}} {
		need := min(g.Blocks, 3)
		all = append(all,
			opened(t, full(t, g)),
			opened(t, laid(t, g, full(t, g), pieces(0, inode.File, some(need*g.Size-1), []int{0, 2, 1}[:need], []int{0, g.Blocks - 1, 1}[:need]))),
			opened(t, laid(t, g, full(t, g), pieces(0, inode.Dir, make([]byte, need*g.Size), []int{0, 2, 1}[:need], []int{0, g.Blocks - 1, 1}[:need]))))
	}
	all = append(all, opened(t, shelf(t)))
	for _, a := range all {
		for _, b := range all {
			asked(device{d: a.d, v: a.v, c: b.c})
		}
	}
}

// Two volumes side by side have nothing of each other.
func TestVolumesAreApart(t *testing.T) {
	g := small()
	a := opened(t, laid(t, g, full(t, g), in(0, inode.Dir, joined(t, names("a")...))))
	b := opened(t, laid(t, g, full(t, g), in(0, inode.Dir, joined(t, names("b", "a")...))))
	for range 2 {
		mustEntries(t, a, 0, names("a")...)
		mustEntries(t, b, 0, names("b", "a")...)
		mustWalk(t, a, -1, api.ErrMissing, "b")
		mustWalk(t, b, 10, api.OK, "b")
	}
}

// What the chapter lists has just these signatures.
var (
	_ func(*volume.Volume, *claim.Claim, int) ([]byte, api.Errno)           = Bytes
	_ func(*volume.Volume, *claim.Claim, int) ([]byte, bool)                = Stay
	_ func(*volume.Volume, *claim.Claim, int) ([]entry.Entry, api.Errno)    = Entries
	_ func(*volume.Volume, *claim.Claim, int, string) (int, int, api.Errno) = Find
	_ func(*volume.Volume, *claim.Claim, ...string) (int, api.Errno)        = Walk
)
