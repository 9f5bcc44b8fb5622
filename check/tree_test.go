package check

import (
	"fmt"
	"slices"
	"strings"
	"testing"

	"cantle/api"
	"cantle/entry"
	"cantle/geometry"
	"cantle/pm"
	"cantle/tree"
)

// P19.1: Sound, Check, Where

// shelves are what shelf has.
func shelves() ([]tree.Item, map[string]int) {
	return []tree.Item{
		dirAt("/d"), dirAt("/d/e"), at("/d/none", ""), at("/long", string(make([]byte, 130))+"bytes"), at("/one", "one"),
	}, map[string]int{"/": 0, "/d": 3, "/d/e": 5, "/d/none": 6, "/long": 2, "/one": 4}
}

// The tree has just what was met, with its names and bytes, and nothing of what stands behind a file's bytes in its last block.
func TestTree(t *testing.T) {
	l, _ := shelf(t)
	items, where := shelves()
	mustTree(t, l, None, where, items...)
}

// A root alone, also where there is nothing else, and where all others are free.
func TestTreeOfARoot(t *testing.T) {
	for _, g := range []geometry.Geometry{small(), {Blocks: 1, Inodes: 1, Size: 64}, {Blocks: 3, Inodes: 1, Size: 4096}} {
		l, _ := laid(t, chance(11), g, dir(0))
		mustTree(t, l, None, map[string]int{"/": 0})
		x, e := Check(pm.Of(l))
		if e != api.OK || x.Count() != 1 || !x.Same(tree.New()) {
			t.Error(x, e)
		}
	}
}

// A device whose bitmap, or record, or both are wrong has the same tree, of Sound and Where; Check answers none.
func TestTreeOfWhatIsNoImage(t *testing.T) {
	items, where := shelves()
	for set := range 8 {
		l, _ := shelf(t)
		want := None
		if set&1 != 0 {
			l[9], want = 5, Record
		}
		if set&2 != 0 {
			l[bitmapAt(small())] ^= 3
			want = Bitmap
		}
		if set&4 != 0 {
			l[bitmapAt(small())] |= 1 << 63
			want = Bitmap
		}
		mustTree(t, l, want, where, items...)
	}
}

// Files of each size up to some blocks.
func TestTreeOfSizes(t *testing.T) {
	for _, g := range []geometry.Geometry{{Blocks: 12, Inodes: 4, Size: 64}, {Blocks: 4, Inodes: 4, Size: 256}} {
		for n := range 260 {
			b := strings.Repeat("abcdefg", n/7+1)[:n]
			l, _ := laid(t, chance(uint64(n)), g, dir(0, to("f", 3)), doc(3, b))
			mustTree(t, l, None, map[string]int{"/": 0, "/f": 3}, at("/f", b))
		}
	}
}

// Names of any bytes are kept, and stand in the tree's order, not in the folder's.
func TestTreeOfNames(t *testing.T) {
	names := []string{"b", "a", "\xff", "\x01", "a b", "a.", "..a", strings.Repeat("x", 48), "a-"}
	var l []entry.Entry
	things := []thing{}
	where := map[string]int{"/": 0}
	var items []tree.Item
	for k, name := range names {
		l = append(l, to(name, k+1))
		things = append(things, doc(k+1, name))
		where["/"+name] = k + 1
		items = append(items, at("/"+name, name))
	}
	slices.SortFunc(items, func(a, b tree.Item) int { return strings.Compare(a.Path, b.Path) })
	mustTree(t, image(t, append(things, dir(0, l...))...), None, where, items...)
}

// Of names that begin like a directory's, some stand ahead of what is in it by bytes: each thing is where its folder has it.
func TestTreeOfNamesThatBeginAlike(t *testing.T) {
	l := image(t, dir(0, to("a-", 1), to("a", 2), to("a!b", 5), to("aa", 6)), dir(1, to("z", 3)), dir(2, to("y", 4), to("-", 7)), doc(3, "3"), doc(4, "4"), doc(5, "5"), doc(6, "6"), doc(7, "7"))
	mustTree(t, l, None, map[string]int{"/": 0, "/a-": 1, "/a": 2, "/a-/z": 3, "/a/y": 4, "/a!b": 5, "/aa": 6, "/a/-": 7},
		dirAt("/a"), at("/a/-", "7"), at("/a/y", "4"), at("/a!b", "5"), dirAt("/a-"), at("/a-/z", "3"), at("/aa", "6"))
}

// The same name in many directories is many things.
func TestTreeOfOneNameInMany(t *testing.T) {
	l := image(t, dir(0, to("n", 5)), dir(5, to("n", 2)), dir(2, to("n", 7), to("m", 4)), doc(7, "deep"), dir(4, to("n", 9)), doc(9, "er"))
	mustTree(t, l, None, map[string]int{"/": 0, "/n": 5, "/n/n": 2, "/n/n/n": 7, "/n/n/m": 4, "/n/n/m/n": 9},
		dirAt("/n"), dirAt("/n/n"), dirAt("/n/n/m"), at("/n/n/m/n", "er"), at("/n/n/n", "deep"))
}

// Down to 64 names of 48 bytes.
func TestTreeDown(t *testing.T) {
	name := strings.Repeat("n", api.MaxName)
	var l []thing
	where := map[string]int{"/": 0}
	var items []tree.Item
	for i := range 64 {
		l = append(l, dir(i, to(name, i+1)))
		p := strings.Repeat("/"+name, i+1)
		where[p] = i + 1
		if i < 63 {
			items = append(items, dirAt(p))
		} else {
			items = append(items, at(p, "far"))
		}
	}
	words, _ := laid(t, chance(12), deep(), append(l, doc(64, "far"))...)
	mustTree(t, words, None, where, items...)
}

// As many inodes as there may be, all but the root in a directory whose bytes are in as many slots as it has blocks.
func TestTreeOfManyInodes(t *testing.T) {
	g := geometry.Geometry{Blocks: api.MaxBlocks, Inodes: api.MaxInodes, Size: 64}
	var l []entry.Entry
	things := make([]thing, 0, g.Inodes)
	for i := 1; i < g.Inodes; i++ {
		l = append(l, to(fmt.Sprintf("%05d", i), i))
		things = append(things, doc(i, ""))
	}
	words, _ := laid(t, chance(13), g, append(things, dir(0, l...))...)
	x, e := Check(pm.Of(words))
	if e != api.OK || x.Count() != g.Inodes {
		t.Fatal(Name(Judge(pm.Of(words))), e)
	}
	where, e := Where(pm.Of(words))
	if e != api.OK || len(where) != g.Inodes || where["/00001"] != 1 || where["/65533"] != 65533 || where["/"] != 0 {
		t.Fatal(len(where), e)
	}
	words[16+8*65533] ^= 1
	mustJudge(t, words, Claims)
}
