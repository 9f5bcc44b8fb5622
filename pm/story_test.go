package pm

import (
	"slices"
	"testing"
)

// story is what was done to a device since its last crash, from which what its words may hold is told by the chapter's own words, without any state between.
type story struct {
	base  []uint64
	deeds []deed
}

type deed struct {
	what  byte // 's', 'f' or '|': a store, a flush, a fence
	where int  // a word, or a line
	value uint64
}

// stores are the places, in the story, of a word's stores.
func (s *story) stores(w int) []int {
	var l []int
	for k, x := range s.deeds {
		if x.what == 's' && x.where == w {
			l = append(l, k)
		}
	}
	return l
}

// lasts tells whether a store at a place has a flush of its line behind it, and a fence behind that.
func (s *story) lasts(at int) bool {
	line, flushed := s.deeds[at].where/8, false
	for _, x := range s.deeds[at+1:] {
		if x.what == 'f' && x.where == line {
			flushed = true
		}
		if x.what == '|' && flushed {
			return true
		}
	}
	return false
}

// may is what a word may hold.
func (s *story) may(w int) []uint64 {
	l := []uint64{s.base[w]}
	for _, at := range s.stores(w) {
		if s.lasts(at) {
			l = l[:0]
		}
		l = append(l, s.deeds[at].value)
	}
	return l
}

// seen is a word as it is seen.
func (s *story) seen(w int) uint64 {
	l := s.may(w)
	return l[len(l)-1]
}

// crash ends the story, and begins another one.
func (s *story) crash(choices []byte) int {
	after, n := slices.Clone(s.base), 0
	for w := range s.base {
		l := s.may(w)
		after[w] = l[0]
		if len(l) > 1 {
			if n < len(choices) {
				after[w] = l[int(choices[n])%len(l)]
			}
			n++
		}
	}
	s.base, s.deeds = after, nil
	return n
}

// numbers gives the same numbers each time.
type numbers uint64

func (n *numbers) below(k int) int {
	*n = *n*6364136223846793005 + 1442695040888963407
	return int(uint64(*n)>>33) % k
}

// TestDeviceFollowsItsStory holds devices against their stories, through steps, fuses, crashes and copies.
func TestDeviceFollowsItsStory(t *testing.T) {
	for seed := range 300 {
		n := numbers(seed)
		words := 1 + n.below(20)
		d, s := New(words), &story{base: make([]uint64, words)}
		fuse := -1
		for step := range 80 {
			act(t, &n, d, s, &fuse)
			if n.below(10) == 0 {
				old := d
				d = d.Copy()
				old.Arm(9)
				old.Store(0, 1000)
				old.Crash(1, 1)
			}
			hold(t, d, s, fuse, seed, step)
		}
	}
}

// act does one thing to a device, and tells it to the story, if the fuse lets it.
func act(t *testing.T, n *numbers, d *Device, s *story, fuse *int) {
	t.Helper()
	var x deed
	var did bool
	switch k := n.below(20); {
	case k < 9:
		x = deed{'s', n.below(d.Len()), uint64(n.below(4))}
		did = d.Store(x.where, x.value)
	case k < 15:
		x = deed{'f', n.below((d.Len() + 7) / 8), 0}
		did = d.Flush(x.where)
	case k < 18:
		x = deed{'|', 0, 0}
		did = d.Fence()
	case k == 18:
		*fuse = n.below(12)
		d.Arm(*fuse)
		return
	default:
		choices := make([]byte, n.below(6))
		for k := range choices {
			choices[k] = byte(n.below(256))
		}
		if got, want := d.Crash(choices...), s.crash(choices); got != want {
			t.Fatalf("Crash: %d, want %d", got, want)
		}
		*fuse = -1
		return
	}
	if did != (*fuse != 0) {
		t.Fatalf("%c was done: %t, with a fuse of %d", x.what, did, *fuse)
	}
	if did {
		s.deeds = append(s.deeds, x)
		if *fuse > 0 {
			*fuse--
		}
	}
}

// hold fails, if a device isn't as its story tells.
func hold(t *testing.T, d *Device, s *story, fuse, seed, step int) {
	t.Helper()
	if d.Down() != (fuse == 0) {
		t.Fatalf("seed %d, step %d: Down: %t, with a fuse of %d", seed, step, d.Down(), fuse)
	}
	for w := range s.base {
		want := s.may(w)
		if got := d.May(w); !slices.Equal(got, want) {
			t.Fatalf("seed %d, step %d: May(%d): %v, want %v", seed, step, w, got, want)
		}
		if d.Lasting(w) != want[0] || d.Load(w) != s.seen(w) {
			t.Fatalf("seed %d, step %d: word %d: %d, %d, want %v", seed, step, w, d.Lasting(w), d.Load(w), want)
		}
	}
}
