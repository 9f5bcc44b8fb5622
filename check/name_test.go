package check

import (
	"math"
	"testing"
)

// P19.1: Name

// Each fault has its name, and its number is its place in the row.
func TestName(t *testing.T) {
	for k, c := range []struct {
		f    Fault
		want string
	}{
		{None, "none"}, {Super, "super"}, {Claims, "claims"}, {Root, "root"}, {Folder, "folder"},
		{Link, "link"}, {Deep, "deep"}, {Orphan, "orphan"}, {Bitmap, "bitmap"}, {Record, "record"},
	} {
		if c.f != Fault(k) {
			t.Errorf("%s: %d, want %d", c.want, c.f, k)
		}
		if got := Name(c.f); got != c.want {
			t.Errorf("Name(%d): %q, want %q", c.f, got, c.want)
		}
	}
}

// A number that is no fault's has none, however far it is, or near by its low bits.
func TestNameOfNone(t *testing.T) {
	for _, f := range []Fault{
		-1, -2, -9, -10, -11, 10, 11, 12, 255, 256, 257, 1 << 16, 1<<16 + 1, 1<<31 - 1, 1 << 31, 1 << 32, 1<<32 + 1, 1<<32 + 9, -1 << 32, 1 - 1<<32,
		1 << 62, 1<<62 + 3, -1 << 62, math.MaxInt, math.MaxInt - 1, math.MaxInt - 9, math.MinInt, math.MinInt + 1, math.MinInt + 9, math.MaxInt32, math.MinInt32,
	} {
		if got := Name(f); got != "" {
			t.Errorf("Name(%d): %q", f, got)
		}
	}
}
