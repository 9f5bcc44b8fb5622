package folder

import (
	"math/rand/v2"
	"slices"
	"strconv"
	"testing"

	"cantle/api"
	"cantle/entry"
	"cantle/geometry"
	"cantle/inode"
	"cantle/run"
)

// shelf are words of a device with folders in folders: 0 has d, 1, and f, 2, and bad, 3, and free, 4, and away, 6; 1 has up, 0, and self, 1, and deep, 5; 5 has d, 1, and f, 2, and self, 5.
func shelf(t *testing.T) []uint64 {
	t.Helper()
	return laid(t, shelves(), full(t, shelves()), shelved(t)...)
}

// shelves is its geometry.
func shelves() geometry.Geometry { return geometry.Geometry{Blocks: 16, Inodes: 6, Size: 128} }

// shelved are its files.
func shelved(t *testing.T) []file {
	t.Helper()
	return []file{
		{0, inode.Dir, joined(t, entry.Entry{Name: "d", Inode: 1}, entry.Entry{Name: "f", Inode: 2}, entry.Entry{Name: "bad", Inode: 3}, entry.Entry{Name: "free", Inode: 4}, entry.Entry{Name: "away", Inode: 6}), []int{7, 3}, []run.Run{{Start: 12, Count: 2}, {Start: 0, Count: 1}}},
		{1, inode.Dir, joined(t, entry.Entry{Name: "up", Inode: 0}, entry.Entry{Name: "self", Inode: 1}, entry.Entry{Name: "deep", Inode: 5}), []int{0, 9}, []run.Run{{Start: 9, Count: 1}, {Start: 4, Count: 1}}},
		{2, inode.File, joined(t, entry.Entry{Name: "f", Inode: 2}), []int{15}, []run.Run{{Start: 15, Count: 1}}},
		{3, inode.Dir, append(joined(t, entry.Entry{Name: "f", Inode: 2}), make([]byte, 64)...), []int{1}, []run.Run{{Start: 1, Count: 1}}},
		{5, inode.Dir, joined(t, entry.Entry{Name: "d", Inode: 1}, entry.Entry{Name: "f", Inode: 2}, entry.Entry{Name: "self", Inode: 5}), []int{4, 5}, []run.Run{{Start: 6, Count: 1}, {Start: 3, Count: 1}}},
	}
}

// P18.3: Walk

// The chapter's example, whatever inode 0 is.
func TestWalkWithoutNames(t *testing.T) {
	g := small()
	for _, files := range [][]file{
		nil,
		{{number: 0, kind: inode.Dir}},
		{{number: 0, kind: inode.File}},
		{in(0, inode.Dir, some(64))},
		{in(0, inode.File, some(9))},
		{in(0, inode.Dir, joined(t, names("a")...))},
		{in(1, inode.Dir, joined(t, names("a")...))},
	} {
		o := opened(t, laid(t, g, full(t, g), files...))
		mustWalk(t, o, 0, api.OK)
		mustWalk(t, o, 0, api.OK, []string{}...)
	}
}

func TestWalkByNames(t *testing.T) {
	o := opened(t, shelf(t))
	mustWalk(t, o, 1, api.OK, "d")
	mustWalk(t, o, 2, api.OK, "f")
	mustWalk(t, o, 5, api.OK, "d", "deep")
	mustWalk(t, o, 2, api.OK, "d", "deep", "f")
	mustWalk(t, o, 1, api.OK, "d", "deep", "d")
	mustWalk(t, o, 5, api.OK, "d", "deep", "d", "deep")
}

// What the last name leads to isn't gone through: it may be no folder, and not there.
func TestWalkToAnything(t *testing.T) {
	o := opened(t, shelf(t))
	mustWalk(t, o, 3, api.OK, "bad")
	mustWalk(t, o, 4, api.OK, "free")
	mustWalk(t, o, 6, api.OK, "away")
	mustWalk(t, o, 6, api.OK, "d", "up", "away")
}

func TestWalkBackToWhatWasMet(t *testing.T) {
	o := opened(t, shelf(t))
	mustWalk(t, o, 0, api.OK, "d", "up")
	mustWalk(t, o, 1, api.OK, "d", "self")
	mustWalk(t, o, 1, api.OK, "d", "up", "d", "self", "self")
	mustWalk(t, o, 5, api.OK, "d", "up", "d", "deep", "self", "self", "d", "deep")
	for many := range 200 {
		mustWalk(t, o, 1, api.OK, append([]string{"d"}, slices.Repeat([]string{"self"}, many)...)...)
		mustWalk(t, o, 0, api.OK, slices.Repeat([]string{"d", "up"}, many)...)
		mustWalk(t, o, -1, api.ErrMissing, append(slices.Repeat([]string{"d", "up"}, many), "up")...)
	}
}

func TestWalkErrors(t *testing.T) {
	o := opened(t, shelf(t))
	for _, x := range []struct {
		e     api.Errno
		names []string
	}{
		{api.ErrMissing, []string{"x"}},
		{api.ErrMissing, []string{"x", "d"}},
		{api.ErrMissing, []string{"x", "d", "deep"}},
		{api.ErrMissing, []string{"d", "x", "deep"}},
		{api.ErrMissing, []string{"d", "x"}},
		{api.ErrMissing, []string{"d", "deep", "x"}},
		{api.ErrMissing, []string{"d", "deep", "x", "f"}},
		{api.ErrMissing, []string{"up"}},
		{api.ErrMissing, []string{"d", "d"}},
		{api.ErrMissing, []string{""}},
		{api.ErrMissing, []string{"", "d"}},
		{api.ErrMissing, []string{"d", ""}},
		{api.ErrMissing, []string{"."}},
		{api.ErrMissing, []string{"d", ".."}},
		{api.ErrMissing, []string{"d", "..", "f"}},
		{api.ErrMissing, []string{"d/deep"}},
		{api.ErrMissing, []string{"/d"}},
		{api.ErrMissing, []string{"/"}},
		{api.ErrNotDir, []string{"f", "f"}},
		{api.ErrNotDir, []string{"f", "x"}},
		{api.ErrNotDir, []string{"f", ""}},
		{api.ErrNotDir, []string{"f", "f", "x"}},
		{api.ErrNotDir, []string{"d", "deep", "f", "f"}},
		{api.ErrNotDir, []string{"d", "up", "f", "x", "x"}},
		{api.ErrForm, []string{"bad", "f"}},
		{api.ErrForm, []string{"bad", "x"}},
		{api.ErrForm, []string{"bad", "", "x"}},
		{api.ErrForm, []string{"d", "up", "bad", "f", "f"}},
		{api.ErrMissing, []string{"free", "f"}},
		{api.ErrMissing, []string{"free", ""}},
		{api.ErrMissing, []string{"away", "f"}},
		{api.ErrMissing, []string{"d", "up", "away", "d", "deep"}},
	} {
		mustWalk(t, o, -1, x.e, x.names...)
	}
}

// Inode 0 is no folder, so the first name can't be gone by.
func TestWalkFromNoFolder(t *testing.T) {
	g := small()
	for want, files := range map[api.Errno][]file{
		api.ErrMissing: {in(1, inode.Dir, joined(t, names("a")...))},
		api.ErrNotDir:  {in(0, inode.File, joined(t, names("a")...))},
		api.ErrForm:    {in(0, inode.Dir, each(t, names("a", "a")...))},
	} {
		o := opened(t, laid(t, g, full(t, g), files...))
		mustWalk(t, o, -1, want, "a")
		mustWalk(t, o, -1, want, "")
		mustWalk(t, o, -1, want, "a", "a")
		mustWalk(t, o, 0, api.OK)
	}
}

// Each way of at most five names is gone, and held against a table of what leads where.
func TestWalkEachWay(t *testing.T) {
	o := opened(t, shelf(t))
	leads := map[int]map[string]int{
		0: {"d": 1, "f": 2, "bad": 3, "free": 4, "away": 6},
		1: {"up": 0, "self": 1, "deep": 5},
		5: {"d": 1, "f": 2, "self": 5},
	}
	stops := map[int]api.Errno{2: api.ErrNotDir, 3: api.ErrForm, 4: api.ErrMissing, 6: api.ErrMissing}
	var goOn func(names []string, at int, e api.Errno)
	goOn = func(names []string, at int, e api.Errno) {
		mustWalk(t, o, at, e, names...)
		if len(names) == 5 {
			return
		}
		for _, name := range []string{"d", "f", "bad", "free", "away", "up", "self", "deep", "x"} {
			next, then := -1, e
			if e == api.OK {
				then = stops[at]
			}
			if then == api.OK {
				if to, is := leads[at][name]; is {
					next = to
				} else {
					then = api.ErrMissing
				}
			}
			goOn(append(slices.Clone(names), name), next, then)
		}
	}
	goOn(nil, 0, api.OK)
}

// Any folders lead to any inodes, and any ways among them end where each name's Find leads.
func TestWalkIsFindByFind(t *testing.T) {
	r := chance(3)
	for range 200 {
		g := geometry.Geometry{Blocks: 60, Inodes: 10, Size: 64}
		o := opened(t, laid(t, g, full(t, g), anyFolders(t, r, g)...))
		for range 30 {
			var way []string
			node, want := 0, api.OK
			for range r.IntN(7) {
				name := strconv.Itoa(r.IntN(6))
				way = append(way, name)
				if want != api.OK {
					continue
				}
				node, _, want = Find(o.v, o.c, node, name)
			}
			mustWalk(t, o, node, want, way...)
		}
	}
}

// anyFolders are folders with some of the names 0 to 4, for inodes of which a few aren't there, and a file or two.
func anyFolders(t *testing.T, r *rand.Rand, g geometry.Geometry) []file {
	t.Helper()
	var files []file
	blocks, slots := r.Perm(g.Blocks), r.Perm(g.Blocks)
	for i := range g.Inodes {
		kind := inode.Dir
		if r.IntN(8) == 0 {
			kind = inode.File
		}
		var l []entry.Entry
		for _, name := range r.Perm(5)[:r.IntN(6)] {
			l = append(l, entry.Entry{Name: strconv.Itoa(name), Inode: r.IntN(g.Inodes + 1)})
		}
		files = append(files, pieces(i, kind, joined(t, l...), slots[:len(l)], blocks[:len(l)]))
		blocks, slots = blocks[len(l):], slots[len(l):]
	}
	return files
}
