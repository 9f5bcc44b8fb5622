package volume

import (
	"slices"
	"testing"

	"cantle/api"
	"cantle/geometry"
	"cantle/pm"
)

// mustNotOpen fails, unless a device has no volume, and stays as it is.
func mustNotOpen(t *testing.T, words []uint64) {
	t.Helper()
	d := pm.Of(words)
	if v, e := Open(d); v != nil || e != api.ErrForm {
		t.Errorf("Open of %d words, %x first: %v, %d", d.Len(), d.Load(0), v, e)
	}
	if !slices.Equal(d.Words(), words) || d.Steps() != 0 {
		t.Errorf("Open of %d words did something", d.Len())
	}
}

// P15.1

func TestOpenOfADeviceWithASuperblock(t *testing.T) {
	for _, g := range append(small(), great()...) {
		for _, d := range []*pm.Device{blank(g), full(g)} {
			v, e := Open(d)
			if e != api.OK || v == nil {
				t.Fatalf("Open of %+v: %v, %d", g, v, e)
			}
			if v.Geometry() != g || v.Device() != d {
				t.Errorf("%+v: %+v, its device: %v", g, v.Geometry(), v.Device() == d)
			}
			if d.Steps() != 0 {
				t.Errorf("Open of %+v did %d steps", g, d.Steps())
			}
		}
	}
}

func TestOpenOfNoSuperblock(t *testing.T) {
	for _, words := range []int{0, 1, 7, 8, 9, 16, 100, 144, 1000} {
		mustNotOpen(t, make([]uint64, words))
	}
	all := make([]uint64, 144)
	for w := range all {
		all[w] = ^uint64(0)
	}
	mustNotOpen(t, all)
}

func TestOpenOfASuperblockWithABitTurned(t *testing.T) {
	words := full(geometry.Geometry{Blocks: 10, Inodes: 3, Size: 64}).Words()
	for w := range 8 {
		for bit := range 64 {
			turned := slices.Clone(words)
			turned[w] ^= 1 << bit
			mustNotOpen(t, turned)
		}
	}
}

func TestOpenOfWordsTooManyOrTooFew(t *testing.T) {
	for _, g := range small() {
		words := full(g).Words()
		for _, count := range []int{0, 1, 7, 8, 16, len(words) - 8, len(words) - 1} {
			mustNotOpen(t, words[:count])
		}
		for _, more := range []int{1, 7, 8, len(words)} {
			mustNotOpen(t, append(slices.Clone(words), make([]uint64, more)...))
		}
	}
}

func TestOpenOfAGeometryThatMayNotBe(t *testing.T) {
	for _, g := range []geometry.Geometry{
		{}, {Blocks: 0, Inodes: 3, Size: 64}, {Blocks: 10, Inodes: 0, Size: 64}, {Blocks: 10, Inodes: 3, Size: 0}, {Blocks: 10, Inodes: 3, Size: 32}, {Blocks: 10, Inodes: 3, Size: 96},
		{Blocks: 65535, Inodes: 3, Size: 64}, {Blocks: 10, Inodes: 65535, Size: 64}, {Blocks: 10, Inodes: 3, Size: 8192},
	} {
		words := make([]uint64, partsOf(g).words)
		copy(words, superOf(g))
		mustNotOpen(t, words)
	}
}

func TestOpenOfWhatIsSeen(t *testing.T) {
	g := geometry.Geometry{Blocks: 3, Inodes: 2, Size: 64}
	d := pm.New(partsOf(g).words)
	for w, x := range superOf(g) {
		d.Store(w, x)
	}
	if v, e := Open(d); e != api.OK || v.Geometry() != g {
		t.Fatal(e)
	}
	d.Crash()
	if v, e := Open(d); v != nil || e != api.ErrForm {
		t.Error("a superblock that was lost is one: ", e)
	}
	d = blank(g)
	d.Store(1, 0)
	if v, e := Open(d); v != nil || e != api.ErrForm {
		t.Error("a superblock that isn't seen is one: ", e)
	}
}

func TestOpenOfADeviceThatIsDown(t *testing.T) {
	g := geometry.Geometry{Blocks: 3, Inodes: 2, Size: 64}
	d := blank(g)
	d.Arm(0)
	if v, e := Open(d); e != api.OK || v.Geometry() != g || v.Device() != d {
		t.Error(e)
	}
}

func TestVolumesOfTwoDevicesAreApart(t *testing.T) {
	a, b := geometry.Geometry{Blocks: 3, Inodes: 2, Size: 64}, geometry.Geometry{Blocks: 8, Inodes: 3, Size: 128}
	v, w := opened(t, blank(a)), opened(t, blank(b))
	if v.Geometry() != a || w.Geometry() != b || v.Device() == w.Device() {
		t.Error(v.Geometry(), w.Geometry())
	}
}

func TestSyncIsAFence(t *testing.T) {
	d := full(geometry.Geometry{Blocks: 3, Inodes: 2, Size: 64})
	v := opened(t, d)
	d.Store(20, 5)
	d.Flush(2)
	d.Store(30, 6)
	want := d.Copy()
	want.Fence()
	if e := v.Sync(); e != api.OK {
		t.Fatal(e)
	}
	mustBeAlike(t, d, want)
	if d.Lasting(20) != 5 || d.Lasting(30) == 6 {
		t.Error(d.May(20), d.May(30))
	}
}

func TestSyncOfNothingIsAFenceToo(t *testing.T) {
	d := blank(geometry.Geometry{Blocks: 3, Inodes: 2, Size: 64})
	v := opened(t, d)
	for k := range 3 {
		if e := v.Sync(); e != api.OK || d.Steps() != k+1 || d.Stores() != 0 {
			t.Error(e, d.Steps(), d.Stores())
		}
	}
}

func TestSyncOfADeviceThatIsDown(t *testing.T) {
	d := blank(geometry.Geometry{Blocks: 3, Inodes: 2, Size: 64})
	v := opened(t, d)
	d.Store(20, 5)
	d.Flush(2)
	d.Arm(0)
	want := d.Copy()
	if e := v.Sync(); e != api.ErrDown {
		t.Error(e)
	}
	mustBeAlike(t, d, want)
	d.Arm(1)
	if e := v.Sync(); e != api.OK || !d.Down() {
		t.Error("its last step: ", e)
	}
	if e := v.Sync(); e != api.ErrDown {
		t.Error(e)
	}
	d.Crash()
	if e := v.Sync(); e != api.OK {
		t.Error("up again: ", e)
	}
}
