package check

import (
	"fmt"
	"slices"
	"strings"
	"testing"

	"cantle/api"
	"cantle/entry"
	"cantle/geometry"
	"cantle/pm"
)

// P19.1: Folder, Link, Deep, Orphan

// A directory whose bytes are no directory's, inode 0 too: a byte of an entry, whichever it is, noughts, a name that is there twice.
func TestFolder(t *testing.T) {
	for _, number := range []int{0, 3} {
		l, p := shelf(t)
		for b, owner := range p.blocks {
			if owner != number {
				continue
			}
			w := blockAt(small(), b)
			for k := range 8 {
				for bit := range 64 {
					l[w+k] ^= 1 << bit
					mustJudge(t, l, Folder)
					l[w+k] ^= 1 << bit
				}
			}
			old := slices.Clone(l[w : w+8])
			clear(l[w : w+8])
			mustJudge(t, l, Folder)
			copy(l[w:], old)
		}
		mustJudge(t, l, None)
	}
	for _, things := range [][]thing{
		{torn(0)},
		{torn(0, to("a", 1)), doc(1, "")},
		{dir(0, to("a", 1), to("a", 2)), doc(1, ""), doc(2, "")},
		{dir(0, to("a", 1), to("a", 1)), doc(1, "")},
		{dir(0, to("a", 1), to("b", 2), to("a", 3)), doc(1, ""), doc(2, ""), doc(3, "")},
		{dir(0, to("a", 1)), dir(1, to("b", 2), to("b", 3)), doc(2, ""), doc(3, "")},
		{dir(0, to("a", 1)), dir(1, to("b", 2)), dir(2, to("c", 3)), torn(3)},
	} {
		mustJudge(t, image(t, things...), Folder)
	}
	mustJudge(t, image(t, dir(0, to("a", 1), to("A", 2)), dir(1, to("a", 3)), doc(2, ""), doc(3, "")), None)
}

// A directory that isn't met may be broken: it is an orphan.
func TestFolderThatIsNotMet(t *testing.T) {
	mustJudge(t, image(t, dir(0), torn(1)), Orphan)
}

// A name leads to an inode that isn't there, that is free, or that was met already.
func TestLink(t *testing.T) {
	for _, far := range []int{10, 11, 12, 20, 255, 256, 257, 266, 1 << 15, 65532, 65533} {
		mustJudge(t, image(t, dir(0, to("a", far))), Link)
		mustJudge(t, image(t, dir(0, to("d", 1)), dir(1, to("e", 2)), dir(2, to("a", far))), Link)
	}
	for free := 1; free < 10; free++ {
		mustJudge(t, image(t, dir(0, to("a", free))), Link)
	}
	for _, things := range [][]thing{
		{dir(0, to("a", 0))},
		{dir(0, to("a", 1), to("b", 1)), doc(1, "some")},
		{dir(0, to("a", 1), to("b", 1)), doc(1, "")},
		{dir(0, to("a", 1), to("b", 1)), dir(1)},
		{dir(0, to("a", 1)), dir(1, to("b", 1))},
		{dir(0, to("a", 1)), dir(1, to("b", 0))},
		{dir(0, to("a", 1)), dir(1, to("b", 2)), dir(2, to("c", 1))},
		{dir(0, to("a", 1)), dir(1, to("b", 2)), dir(2, to("c", 0))},
		{dir(0, to("a", 1), to("b", 2)), dir(1, to("c", 3)), dir(2, to("c", 3)), doc(3, "some")},
		{dir(0, to("a", 1), to("b", 2)), dir(1, to("c", 2)), dir(2)},
		{dir(0, to("a", 1), to("b", 2)), dir(1), dir(2, to("c", 1))},
		{dir(0, to("a", 1), to("b", 2)), dir(1), dir(2, to("c", 0))},
	} {
		mustJudge(t, image(t, things...), Link)
	}
}

// Which inode a name leads to is told by the number of inodes, not by that of blocks.
func TestLinkToTheLastInode(t *testing.T) {
	for _, g := range []geometry.Geometry{{Blocks: 3, Inodes: 9, Size: 64}, {Blocks: 9, Inodes: 3, Size: 64}} {
		l, _ := laid(t, chance(4), g, dir(0, to("a", g.Inodes-1)), doc(g.Inodes-1, "b"))
		mustJudge(t, l, None)
		l, _ = laid(t, chance(4), g, dir(0, to("a", g.Inodes)))
		mustJudge(t, l, Link)
	}
}

// deep is a geometry of directories that lead far down.
func deep() geometry.Geometry { return geometry.Geometry{Blocks: 80, Inodes: 80, Size: 64} }

// down are directories from inode 0 on, each in the one ahead, so that the last one, of this number, has as many names ahead.
func down(number int, last ...entry.Entry) []thing {
	var l []thing
	for i := range number {
		l = append(l, dir(i, to("down", i+1)))
	}
	return append(l, dir(number, last...))
}

// mustDeep fails, unless this is wrong with directories down to one of this number, and other things.
func mustDeep(t *testing.T, want Fault, l []thing, others ...thing) {
	t.Helper()
	words, _ := laid(t, chance(5), deep(), append(l, others...)...)
	mustJudge(t, words, want)
}

// 64 names are not too many, 65 are, for a file and for a directory, for one with names and for one without.
func TestDeep(t *testing.T) {
	for n := 60; n < 70; n++ {
		want := None
		if n >= 65 {
			want = Deep
		}
		mustDeep(t, want, down(n))
		mustDeep(t, want, down(n-1, to("file", n)), doc(n, "some"))
		mustDeep(t, want, down(n-1, to("file", n)), doc(n, ""))
	}
	if api.MaxDepth != 64 {
		t.Error(api.MaxDepth)
	}
}

// Of one inode: a Link ahead of being too deep, and that ahead of no folder. An inode at 64 names is asked all but Deep.
func TestDeepAndOthers(t *testing.T) {
	mustDeep(t, Link, down(64, to("free", 70)))
	mustDeep(t, Link, down(64, to("none", 80)))
	mustDeep(t, Link, down(64, to("none", 65533)))
	mustDeep(t, Link, down(64, to("root", 0)))
	mustDeep(t, Link, down(64, to("self", 64)))
	mustDeep(t, Link, down(64, to("above", 63)))
	mustDeep(t, Deep, down(64, to("torn", 65)), torn(65))
	mustDeep(t, Deep, down(64, to("torn", 65)), dir(65, to("a", 66), to("a", 66)), doc(66, ""))
	mustDeep(t, Deep, down(64, to("dir", 65)), dir(65, to("free", 70)))
	mustDeep(t, Deep, down(64, to("dir", 65)), dir(65, to("self", 65)))
	mustDeep(t, Folder, down(63, to("torn", 64)), torn(64))
	mustDeep(t, Link, down(63, to("free", 70)))
	mustDeep(t, Link, down(63, to("root", 0)))
	mustDeep(t, Deep, down(64, to("a", 65), to("b", 65)), doc(65, ""))
	mustDeep(t, Link, down(64, to("a", 63), to("b", 65)), doc(65, ""))
	mustDeep(t, Link, down(63, to("a", 65), to("b", 65)), doc(65, ""))
}

// An inode that was met by few names, and is met by too many then, was met already; the other way round it is too deep.
func TestDeepOfOneThatWasMet(t *testing.T) {
	for _, first := range []bool{true, false} {
		l := down(64, to("far", 65))
		l[0] = dir(0, to("down", 1), to("near", 65))
		want := Deep
		if first {
			l[0] = dir(0, to("near", 65), to("down", 1))
			want = Link
		}
		mustDeep(t, want, l, doc(65, "some"))
		mustDeep(t, want, l, dir(65))
	}
}

// Names of 48 bytes are as many as short ones: it is not the path's length that counts.
func TestDeepIsNotLong(t *testing.T) {
	for n, want := range map[int]Fault{64: None, 65: Deep} {
		var l []thing
		for i := range n {
			l = append(l, dir(i, to(strings.Repeat("n", api.MaxName), i+1)))
		}
		mustDeep(t, want, append(l, doc(n, "")))
	}
}

// An inode that isn't free wasn't met: a file, a directory, two that lead to each other alone, one that leads to itself, one that leads to what was met.
func TestOrphan(t *testing.T) {
	for _, things := range [][]thing{
		{doc(1, "")},
		{doc(1, "some")},
		{doc(9, "some")},
		{dir(1)},
		{dir(9)},
		{dir(1, to("a", 2)), dir(2, to("b", 1))},
		{dir(1, to("a", 1))},
		{dir(1, to("a", 0))},
		{dir(1, to("a", 5))},
		{dir(1, to("a", 7))},
		{dir(1, to("a", 2)), doc(2, "some")},
		{torn(1)},
	} {
		mustJudge(t, image(t, append([]thing{dir(0)}, things...)...), Orphan)
		mustJudge(t, image(t, append([]thing{dir(0, to("five", 5)), doc(5, "five")}, things...)...), Orphan)
		mustJudge(t, image(t, append([]thing{dir(0, to("five", 5), to("six", 6)), doc(5, "five"), dir(6)}, things...)...), Orphan)
	}
}

// wrong is one of what may be met on the way: the directory of it, and the things that it takes, from a number on.
type wrong struct {
	fault  Fault
	dir    func(number int) thing
	others func(number int) []thing
}

// wrongs are what may be met: folders that are none, links, and nothing wrong.
func wrongs() []wrong {
	return []wrong{
		{Folder, func(i int) thing { return torn(i) }, nil},
		{Folder, func(i int) thing { return dir(i, to("a", i+1), to("a", i+1)) }, func(i int) []thing { return []thing{doc(i+1, "a")} }},
		{Link, func(i int) thing { return dir(i, to("a", 79)) }, nil},
		{Link, func(i int) thing { return dir(i, to("a", 0)) }, nil},
		{Link, func(i int) thing { return dir(i, to("a", i)) }, nil},
		{Deep, func(i int) thing { return dir(i, to("a", 10)) }, nil}, // the one that leads down to 65 names
		{None, func(i int) thing { return dir(i, to("a", i+1)) }, func(i int) []thing { return []thing{dir(i + 1)} }},
	}
}

// things are all of a wrong one, whose directory has this number.
func (w wrong) things(number int) []thing {
	l := []thing{w.dir(number)}
	if w.others != nil {
		l = append(l, w.others(number)...)
	}
	if w.fault == Deep { // 62 directories below, and a file: by 65 names, as the directory has two, and three deeper down
		for i := 10; i < 72; i++ {
			l = append(l, dir(i, to("down", i+1)))
		}
		l = append(l, doc(72, "far"))
	}
	return l
}

// What is met first is the answer, whichever it is: in the order of the entries, not of their names or numbers, and what is in a folder ahead of what stands behind it.
func TestWhatIsMetFirst(t *testing.T) {
	for k, a := range wrongs() {
		for n, b := range wrongs() {
			if a.fault == Deep && b.fault == Deep {
				continue
			}
			want := a.fault
			if want == None {
				want = b.fault
			}
			for _, names := range [][2]string{{"a", "b"}, {"b", "a"}} {
				for _, numbers := range [][2]int{{1, 4}, {4, 1}} {
					l := []thing{dir(0, to("in", 75)), dir(75, to(names[0], numbers[0]), to(names[1], numbers[1]))}
					l = append(append(l, a.things(numbers[0])...), b.things(numbers[1])...)
					words, _ := laid(t, chance(6), deep(), l...)
					if !t.Run("", func(t *testing.T) { mustJudge(t, words, want) }) {
						t.Fatal(k, n, names, numbers)
					}
				}
			}
		}
	}
}

// A link that stands behind a folder is met behind all that is in it, however far down; one that stands ahead, ahead.
func TestWhatIsInAFolderIsMetFirst(t *testing.T) {
	inside := []thing{dir(1, to("x", 2)), dir(2, to("x", 3)), torn(3)}
	mustJudge(t, image(t, append(inside, dir(0, to("z", 1), to("a", 9)))...), Folder)
	mustJudge(t, image(t, append(inside, dir(0, to("z", 9), to("a", 1)))...), Link)
	inside = []thing{dir(1, to("x", 2)), dir(2, to("x", 3)), dir(3, to("x", 9))}
	mustJudge(t, image(t, append(inside, dir(0, to("z", 1), to("a", 4)), torn(4))...), Link)
	mustJudge(t, image(t, append(inside, dir(0, to("z", 4), to("a", 1)), torn(4))...), Folder)
	// a folder that is none has no entries: what its right ones lead to isn't met
	mustJudge(t, image(t, dir(0, to("a", 1)), torn(1, to("b", 9), to("c", 0))), Folder)
	mustJudge(t, image(t, dir(0, to("a", 9), to("b", 9), to("b", 9))), Folder)
}

// spoiled are the words of one image that has each of the faults that are asked for, on the way in this order.
func spoiled(t *testing.T, order []Fault, has map[Fault]bool) []uint64 {
	t.Helper()
	below := map[Fault][]thing{
		Folder: {dir(1, to("x", 2)), dir(2)},
		Link:   {dir(3, to("x", 4)), doc(4, "some")},
	}
	if has[Folder] {
		below[Folder] = []thing{dir(1, to("x", 2)), torn(2)}
	}
	if has[Link] {
		below[Link] = []thing{dir(3, to("x", 4), to("y", 4)), doc(4, "some")}
	}
	for i := 10; i < 73; i++ {
		below[Deep] = append(below[Deep], dir(i, to("x", i+1)))
	}
	below[Deep] = append(below[Deep], dir(73))
	if has[Deep] {
		below[Deep] = append(below[Deep][:63], dir(73, to("x", 74)), doc(74, ""))
	}
	first := map[Fault]int{Folder: 1, Link: 3, Deep: 10}
	var l []thing
	var root []entry.Entry
	for k, f := range order {
		root = append(root, to(fmt.Sprint(9-k), first[f]))
		l = append(l, below[f]...)
	}
	if has[Orphan] {
		l = append(l, doc(78, "lost"))
	}
	words, _ := laid(t, chance(7), deep(), append(l, dir(0, root...))...)
	if has[Super] {
		words[3] ^= 1 << 40
	}
	if has[Claims] {
		words[16+8*77+4] ^= 1 << 3
	}
	if has[Root] {
		n := lineOf(t, words, 0)
		n.Kind = 1
		lined(t, words, 0, n)
	}
	if has[Bitmap] {
		words[bitmapAt(deep())] ^= 1 << 11
	}
	if has[Record] {
		words[12] = 1
	}
	return words
}

// Each fault alone, any two of them, and all more of them at once: the first one is the answer, of Folder, Link and Deep the one that stands ahead.
func TestWhichIsFirst(t *testing.T) {
	all := []Fault{Super, Claims, Root, Folder, Link, Deep, Orphan, Bitmap, Record}
	for _, order := range [][]Fault{
		{Folder, Link, Deep}, {Folder, Deep, Link}, {Link, Folder, Deep}, {Link, Deep, Folder}, {Deep, Folder, Link}, {Deep, Link, Folder},
	} {
		row := slices.Concat([]Fault{Super, Claims, Root}, order, []Fault{Orphan, Bitmap, Record})
		for set := range 1 << len(all) {
			has := map[Fault]bool{}
			for k, f := range all {
				has[f] = set>>k&1 == 1
			}
			want := None
			if k := slices.IndexFunc(row, func(f Fault) bool { return has[f] }); k >= 0 {
				want = row[k]
			}
			words := spoiled(t, order, has)
			if f := Judge(pm.Of(words)); f != want {
				t.Fatal(Name(f), Name(want), order, has)
			}
			if set%7 == 0 {
				mustJudge(t, words, want)
			}
		}
	}
}
