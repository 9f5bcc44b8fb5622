package check

import (
	"cmp"
	"slices"

	"cantle/api"
	"cantle/claim"
	"cantle/folder"
	"cantle/inode"
	"cantle/tree"
	"cantle/volume"
)

// root is the inode that all others are met from.
const root = 0

// mark stands ahead of each name of a path, and alone for the root.
const mark = "/"

// met is what going through all folders of a volume met.
type met struct {
	v     *volume.Volume
	c     *claim.Claim
	paths map[int]string // by inode: where it was met
}

// meet notes an inode at a path of so many names, and what is in it. It ends with what is wrong first; an inode that is met by too many names isn't gone into, so it goes no deeper than that.
func (m met) meet(i int, at string, depth int) Fault {
	n := m.c.Inode(i)
	if _, again := m.paths[i]; again || n == inode.None() {
		return Link
	}
	if depth > api.MaxDepth {
		return Deep
	}
	m.paths[i] = at
	if n.Kind != inode.Dir {
		return None
	}
	l, e := folder.Entries(m.v, m.c, i)
	if e != api.OK {
		return Folder
	}
	for _, x := range l {
		if f := m.meet(x.Inode, in(at, x.Name), depth+1); f != None {
			return f
		}
	}
	return None
}

// in is the path of a name in the directory at a path. The root's ends with the mark that stands ahead of the name.
func in(at, name string) string {
	if at == mark {
		return mark + name
	}
	return at + mark + name
}

// tree has of each inode that was met, but the root, what it is.
func (m met) tree() (*tree.Tree, api.Errno) {
	var l []tree.Item
	for i, at := range m.paths {
		if i != root {
			l = append(l, m.item(i, at))
		}
	}
	// By paths, as a directory's is how those in it begin, so that it stands ahead of them.
	slices.SortFunc(l, func(a, b tree.Item) int { return cmp.Compare(a.Path, b.Path) })
	return tree.Of(l...)
}

// item is what an inode is, at the path where it was met.
func (m met) item(i int, at string) tree.Item {
	if m.c.Inode(i).Kind == inode.Dir {
		return tree.Item{Path: at, Dir: true}
	}
	// The claims are those of the volume as it is, so what was met has bytes.
	b, _ := folder.Bytes(m.v, m.c, i)
	return tree.Item{Path: at, Data: b}
}
