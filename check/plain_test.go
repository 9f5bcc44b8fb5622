package check

import (
	"math/rand/v2"
	"slices"
	"strings"
	"testing"

	"cantle/entry"
	"cantle/geometry"
	"cantle/inode"
	"cantle/tree"
)

// stop is a name on the way: what it leads to, where, and by how many names.
type stop struct {
	number, names int
	path          string
}

// plain reads things as the chapter's words say it, one stop after the other: what is wrong first but the bitmap and the record, and what was met.
func plain(inodes int, things []thing) (Fault, map[string]int, []tree.Item) {
	at := map[int]thing{}
	for _, x := range things {
		at[x.number] = x
	}
	if x, is := at[0]; !is || x.kind != inode.Dir {
		return Root, nil, nil
	}
	where := map[string]int{}
	var items []tree.Item
	met := make([]bool, inodes)
	for way := []stop{{0, 0, ""}}; len(way) > 0; {
		s := way[0]
		way = way[1:]
		x, is := at[s.number]
		if !is || met[s.number] {
			return Link, nil, nil
		}
		if s.names > 64 {
			return Deep, nil, nil
		}
		if x.broken {
			return Folder, nil, nil
		}
		met[s.number] = true
		if s.number == 0 {
			where["/"] = 0
		} else {
			where[s.path] = s.number
			items = append(items, tree.Item{Path: s.path, Dir: x.kind == inode.Dir})
			if x.kind == inode.File {
				items[len(items)-1].Data = x.bytes
			}
		}
		var ahead []stop
		for _, n := range x.entries {
			ahead = append(ahead, stop{n.Inode, s.names + 1, s.path + "/" + n.Name})
		}
		way = append(ahead, way...)
	}
	if len(where) < len(at) {
		return Orphan, nil, nil
	}
	slices.SortFunc(items, func(a, b tree.Item) int {
		return slices.Compare(strings.Split(a.Path, "/"), strings.Split(b.Path, "/"))
	})
	return None, where, items
}

// grown are things that a tree has, whose numbers are as they fall: each hangs below some directory that was there, mostly far down. A steep one has hardly a file, and leads down nearly straight.
func grown(r *rand.Rand, inodes, count int, steep bool) []thing {
	level, files := 4, 2
	if steep {
		level, files = 200, 60
	}
	numbers := r.Perm(inodes - 1)[:count]
	entries := map[int][]entry.Entry{0: nil}
	dirs := []int{0}
	var l []thing
	for k, i := range numbers {
		up := dirs[r.IntN(len(dirs))]
		if r.IntN(level) > 0 {
			up = dirs[len(dirs)-1]
		}
		name := string(rune('a'+r.IntN(20))) + strings.Repeat("x", k%45)
		entries[up] = append(entries[up], to(name, i+1))
		if r.IntN(files) > 0 {
			dirs = append(dirs, i+1)
			continue
		}
		b := make([]byte, r.IntN(150))
		for k := range b {
			b[k] = byte(r.Uint32())
		}
		l = append(l, doc(i+1, string(b)))
	}
	for _, i := range dirs {
		l = append(l, dir(i, entries[i]...))
	}
	return l
}

// bent is what things become, one of which is another one: a name leads elsewhere, is there twice, is gone, or comes in; one is torn, or a file, or free.
func bent(r *rand.Rand, inodes int, things []thing) []thing {
	l := slices.Clone(things)
	k := r.IntN(len(l))
	x := l[k]
	if x.kind == inode.File {
		switch r.IntN(3) {
		case 0:
			return slices.Delete(l, k, k+1)
		case 1:
			l[k] = dir(x.number)
		case 2:
			l[k] = dir(x.number, to("in", r.IntN(inodes+2)))
		}
		return l
	}
	own := slices.Clone(x.entries)
	switch what := r.IntN(8); {
	case what == 0:
		l[k] = torn(x.number, own...)
	case what == 1:
		l[k] = doc(x.number, string(x.bytes))
	case what == 2:
		return slices.Delete(l, k, k+1)
	case what == 3 || len(own) == 0:
		l[k] = dir(x.number, append(own, to("new", r.IntN(inodes+2)))...)
	case what == 4:
		l[k] = dir(x.number, append(own, own[0])...)
	case what == 5:
		l[k] = dir(x.number, own[1:]...)
	case what == 6:
		own[r.IntN(len(own))].Inode = r.IntN(inodes + 2)
		l[k] = dir(x.number, own...)
	case what == 7:
		own[r.IntN(len(own))].Name = own[0].Name
		l[k] = dir(x.number, own...)
	}
	return l
}

// Many trees, as they are and bent, in places as they fall, are read as the words say.
func TestAgainstAPlainReading(t *testing.T) {
	r := chance(14)
	count := map[Fault]int{}
	for range 3000 {
		g := geometry.Geometry{Blocks: 90 + r.IntN(30), Inodes: 4 + r.IntN(20), Size: 64 << r.IntN(2)}
		many := 1 + r.IntN(g.Inodes-1)
		steep := r.IntN(8) == 0
		if steep {
			g.Inodes = 64 + r.IntN(20)
			many = g.Inodes - 1 - r.IntN(6)
		}
		l := grown(r, g.Inodes, many, steep)
		for range r.IntN(4) {
			l = bent(r, g.Inodes, l)
			if len(l) == 0 {
				break
			}
		}
		want, where, items := plain(g.Inodes, l)
		words, _ := laid(t, r, g, l...)
		if want == None && r.IntN(4) == 0 {
			words[bitmapAt(g)] ^= 1 << r.IntN(64)
			want = Bitmap
		}
		if want == None && r.IntN(4) == 0 {
			words[8+r.IntN(8)] = r.Uint64()
			want = Record
		}
		count[want]++
		if want == None || want > Orphan {
			mustTree(t, words, want, where, items...)
			continue
		}
		mustJudge(t, words, want)
	}
	for _, f := range []Fault{None, Root, Folder, Link, Deep, Orphan, Bitmap, Record} {
		if count[f] < 20 {
			t.Error(Name(f), count[f])
		}
	}
}
