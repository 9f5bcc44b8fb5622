package folder

import (
	"fmt"
	"slices"
	"strings"
	"testing"

	"cantle/api"
	"cantle/claim"
	"cantle/crc"
	"cantle/entry"
	"cantle/geometry"
	"cantle/inode"
	"cantle/pm"
	"cantle/run"
	"cantle/volume"
)

// P18.2: Entries, Find

func TestEntriesOfFolders(t *testing.T) {
	g := small()
	for _, l := range [][]string{nil, {"a"}, {"b", "a"}, {"z", "a", "m"}, {"a", "aa", "aaa", "A"}, {"5", "4", "3", "2", "1"}, {"...", " ", "\xff", strings.Repeat("n", 48)}} {
		for _, i := range []int{0, 3, 5} {
			o := opened(t, laid(t, g, full(t, g), in(i, inode.Dir, joined(t, names(l...)...))))
			mustEntries(t, o, i, names(l...)...)
			for _, other := range missing() {
				mustErr(t, o, other, api.ErrMissing)
			}
		}
	}
}

// Folders whose bytes end within a block, and go over blocks' ends.
func TestEntriesOfGreaterBlocks(t *testing.T) {
	for size := 64; size <= 4096; size *= 2 {
		g := geometry.Geometry{Blocks: 6, Inodes: 2, Size: size}
		for _, many := range []int{0, 1, 2, size/64 - 1, size / 64, size/64 + 1, 3*size/64 - 1, 3 * size / 64} {
			var l []entry.Entry
			for k := range many {
				l = append(l, entry.Entry{Name: fmt.Sprint(many - k), Inode: 65533 - k})
			}
			need := (many*64 + size - 1) / size
			f := pieces(1, inode.Dir, joined(t, l...), []int{4, 0, 5}[:need], []int{3, 5, 0}[:need])
			mustEntries(t, opened(t, laid(t, g, full(t, g), f)), 1, l...)
		}
	}
}

// Whose inode a name is isn't asked: it may be free, not there, the folder's own, or another name's.
func TestEntriesOfAnyInodes(t *testing.T) {
	g := small()
	l := []entry.Entry{{Name: "own", Inode: 2}, {Name: "free", Inode: 4}, {Name: "not there", Inode: 6}, {Name: "far", Inode: 65533}, {Name: "free too", Inode: 4}}
	o := opened(t, laid(t, g, full(t, g), in(2, inode.Dir, joined(t, l...))))
	mustEntries(t, o, 2, l...)
}

// A file is no folder, also if its bytes are a directory's, are noughts, are none, or are no entries.
func TestEntriesOfAFile(t *testing.T) {
	g := small()
	for _, b := range [][]byte{nil, joined(t, names("a", "b")...), make([]byte, 64), some(1), some(64), some(100), each(t, names("a", "a")...)} {
		o := opened(t, laid(t, g, full(t, g), in(4, inode.File, b)))
		mustErr(t, o, 4, api.ErrNotDir)
		for _, i := range missing(0, 1, 2, 3, 5) {
			mustErr(t, o, i, api.ErrMissing)
		}
	}
}

func TestEntriesOfWhatIsntThere(t *testing.T) {
	g := small()
	o := opened(t, laid(t, g, full(t, g), in(1, inode.Dir, joined(t, names("a", "b")...)), file{number: 3, kind: inode.Dir}))
	for _, i := range missing(0, 2, 4, 5) {
		mustErr(t, o, i, api.ErrMissing)
	}
	mustEntries(t, o, 3)
}

// P18.2: ErrForm

// Each bit of each of three entries is turned, and so each of them is none's, wherever it stands.
func TestEntriesOfTurnedBits(t *testing.T) {
	g := small()
	own := joined(t, names("a", "bc", "d")...)
	for at := range own {
		for bit := range 8 {
			b := slices.Clone(own)
			b[at] ^= 1 << bit
			mustErr(t, opened(t, laid(t, g, full(t, g), in(0, inode.Dir, b))), 0, api.ErrForm)
		}
	}
}

func TestEntriesOfNoEntries(t *testing.T) {
	g := small()
	a := joined(t, names("a")...)
	for _, b := range [][]byte{make([]byte, 64), some(64), some(192), append(slices.Clone(a), make([]byte, 64)...), append(make([]byte, 64), a...), slices.Concat(a[1:], a[:1])} {
		o := opened(t, laid(t, g, full(t, g), in(3, inode.Dir, b)))
		mustErr(t, o, 3, api.ErrForm)
		mustHave(t, o, 3, b, nil)
	}
}

// Blocks that are read in another order than the chain's would be others' bytes.
func TestEntriesOverBlocks(t *testing.T) {
	g := geometry.Geometry{Blocks: 3, Inodes: 1, Size: 64}
	l := names("x", "y", "z")
	for _, o := range ordersOf(3) {
		mustEntries(t, opened(t, laid(t, g, full(t, g), pieces(0, inode.Dir, joined(t, l...), o, o))), 0, l...)
	}
}

// One name is there twice, side by side and far from each other, for one inode and for two.
func TestEntriesOfANameTwice(t *testing.T) {
	g := small()
	for _, l := range [][]string{{"a", "a"}, {"a", "a", "b"}, {"b", "a", "a"}, {"a", "b", "a"}, {"d", "a", "b", "c", "d"}, {"a", "a", "a"}} {
		o := opened(t, laid(t, g, full(t, g), in(2, inode.Dir, each(t, names(l...)...))))
		mustErr(t, o, 2, api.ErrForm)
	}
	one := entry.Entry{Name: "c", Inode: 1}
	mustErr(t, opened(t, laid(t, g, full(t, g), in(2, inode.Dir, each(t, one, one)))), 2, api.ErrForm)
}

// A directory whose bytes are no multiple of 64 has no line (chapter 6), and so its volume has no claims that a call could be asked with. Next to it come directories whose bytes are cut anew, so that they begin and end within an entry's.
func TestNoDirectoryOfAnotherSize(t *testing.T) {
	g := small()
	for _, size := range []int{1, 63, 65, 127} {
		l := laid(t, g, full(t, g), in(1, inode.File, joined(t, names("a", "b")...)[:size]))
		opened(t, l)
		l[16+8] = l[16+8]&^0xFFFF | uint64(inode.Dir)
		l[16+8+7] = uint64(crc.Words32(l[16+8 : 16+8+7]...))
		v, e := volume.Open(pm.Of(l))
		if e != api.OK {
			t.Fatal(e)
		}
		if c, e := claim.Scan(v); c != nil || e != api.ErrForm {
			t.Fatal(size, c, e)
		}
	}
	for cut := 1; cut < 64; cut++ {
		b := joined(t, names("a", "b", "c")...)[cut : 128+cut]
		mustErr(t, opened(t, laid(t, g, full(t, g), in(1, inode.Dir, b))), 1, api.ErrForm)
	}
}

// Only the bytes are asked, not what is behind them in the last block.
func TestEntriesHaveNothingOfWhatStays(t *testing.T) {
	g := geometry.Geometry{Blocks: 2, Inodes: 1, Size: 256}
	a := joined(t, names("a")...)
	for _, stay := range [][]byte{a, joined(t, entry.Entry{Name: "b", Inode: 1}), some(64), make([]byte, 64)} {
		l := laid(t, g, full(t, g), file{0, inode.Dir, a, []int{1}, []run.Run{{Start: 1, Count: 1}}})
		for k, x := range stay {
			setByte(g, l, 1, 64+k, x)
		}
		o := opened(t, l)
		mustEntries(t, o, 0, names("a")...)
		if _, at, e := Find(o.v, o.c, 0, "b"); at != -1 || e != api.ErrMissing {
			t.Error(at, e)
		}
		if b, is := Stay(o.v, o.c, 0); !is || len(b) != 192 || !slices.Equal(b[:64], stay) {
			t.Error(b, is)
		}
	}
}

// P18.2: Find

// mustNotFind fails, unless there are no such names in a folder.
func mustNotFind(t *testing.T, o device, i int, l ...string) {
	t.Helper()
	for _, name := range l {
		if node, at, e := Find(o.v, o.c, i, name); node != -1 || at != -1 || e != api.ErrMissing {
			t.Errorf("Find(%d, %q): %d, %d, %d", i, name, node, at, e)
		}
	}
}

func TestFindPlaces(t *testing.T) {
	g := small()
	o := opened(t, laid(t, g, full(t, g), in(1, inode.Dir, joined(t, names("mid", "ab", "a", "Z", "last")...))))
	for at, name := range []string{"mid", "ab", "a", "Z", "last"} {
		if node, k, e := Find(o.v, o.c, 1, name); node != 10+at || k != at || e != api.OK {
			t.Error(name, node, k, e)
		}
	}
	mustNotFind(t, o, 1, "b", "A", "z", "mi", "m", "midd", "abc", "la", "lasts", "las", "ast", "B")
	mustNotFind(t, o, 1, "a\x00", "ab\x00\x00", "\x00a", " a", "a ", "a/", "/a", "./a", "mid/ab")
	mustNotFind(t, o, 1, "", ".", "..", "/", "\x00", strings.Repeat("a", 49), strings.Repeat("a", 48), strings.Repeat("a", 100000))
}

// Another name begins with one, and is there ahead of it, or behind it.
func TestFindANameThatAnotherBeginsWith(t *testing.T) {
	g := small()
	for _, l := range [][]string{{"abc", "ab"}, {"ab", "abc"}, {"abc", "ab", "a"}, {"a", "ab", "abc"}} {
		o := opened(t, laid(t, g, full(t, g), in(1, inode.Dir, joined(t, names(l...)...))))
		mustEntries(t, o, 1, names(l...)...)
		mustNotFind(t, o, 1, "abcd", "b", "bc", "")
	}
	for _, l := range [][]string{{"abc"}, {"abc", "abd"}} {
		o := opened(t, laid(t, g, full(t, g), in(1, inode.Dir, joined(t, names(l...)...))))
		mustNotFind(t, o, 1, "a", "ab", "abca")
	}
}

// Bytes are held, not runes, and no letters are alike.
func TestFindByBytes(t *testing.T) {
	g := small()
	l := []string{"\xc3\xa9", "e\xcc\x81", "\xc3", "\xff", "\xef\xbf\xbd"}
	o := opened(t, laid(t, g, full(t, g), in(1, inode.Dir, joined(t, names(l...)...))))
	mustEntries(t, o, 1, names(l...)...)
	mustNotFind(t, o, 1, "\xc3\x89", "\xfe", "\xa9")
}

// In a folder without entries nothing is found.
func TestFindInNone(t *testing.T) {
	g := small()
	o := opened(t, laid(t, g, full(t, g), file{number: 5, kind: inode.Dir}))
	mustNotFind(t, o, 5, "a", "", ".", "/")
}
