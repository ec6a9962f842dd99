package tests

import (
	"math"
	"reflect"
	"slices"
	"strings"
	"testing"
	"unsafe"

	"loop.example/g00197/impl"
)

func rootNode() impl.Inode {
	return impl.Inode{Id: 1, Dir: true, Schema: 1}
}

func dirNode(id, parent int, name string) impl.Inode {
	return impl.Inode{Id: id, Parent: parent, Name: name, Dir: true}
}

// fileNode has a piece of each of these lengths, in groups from 1 on.
func fileNode(id, parent int, name string, s int, lengths ...int) impl.Inode {
	node := impl.Inode{Id: id, Parent: parent, Name: name, Schema: s}
	for i, length := range lengths {
		node.Pieces = append(node.Pieces, impl.Piece{Group: i + 1, Len: length})
		node.Len += length
	}
	return node
}

// treeOf has these nodes as they are; its Next is just above the greatest Id.
func treeOf(nodes ...impl.Inode) impl.Tree {
	t := impl.Tree{Nodes: nodes, Next: 1}
	for _, node := range nodes {
		t.Next = max(t.Next, node.Id+1)
	}
	return t
}

// hall is a right tree of each depth, in which one name stands at several places, and the Parents of
// 3 and 5 stand behind them.
func hall() impl.Tree {
	return treeOf(
		rootNode(),
		dirNode(2, 1, "a"),
		fileNode(3, 8, "a", 2, 24, 24, 7),
		fileNode(4, 2, "b", 1, 16),
		dirNode(5, 8, "b"),
		fileNode(7, 5, "a", 3, 32, 1),
		dirNode(8, 2, "a"),
		fileNode(9, 1, "b", 3),
		dirNode(12, 5, "0"),
	)
}

func hallPaths() map[int]string {
	return map[int]string{1: "/", 2: "/a", 3: "/a/a/a", 4: "/a/b", 5: "/a/a/b", 7: "/a/a/b/a", 8: "/a/a", 9: "/b", 12: "/a/a/b/0"}
}

func cloneTree(t impl.Tree) impl.Tree {
	nodes := slices.Clone(t.Nodes)
	for i := range nodes {
		nodes[i].Pieces = slices.Clone(nodes[i].Pieces)
	}
	return impl.Tree{Nodes: nodes, Next: t.Next}
}

// changed is a tree in which the node at this place is another one.
func changed(t impl.Tree, at int, change func(node *impl.Inode)) impl.Tree {
	t = cloneTree(t)
	change(&t.Nodes[at])
	return t
}

// plainNode is the first node of this Id.
func plainNode(t impl.Tree, id int) (impl.Inode, bool) {
	for _, node := range t.Nodes {
		if node.Id == id {
			return node, true
		}
	}
	return impl.Inode{}, false
}

// plainUp has the node and those above it, up to the root, and whether it comes there in at most
// four steps.
func plainUp(t impl.Tree, id int) ([]impl.Inode, bool) {
	var up []impl.Inode
	for range 5 {
		node, ok := plainNode(t, id)
		if !ok {
			return nil, false
		}
		up = append(up, node)
		if id == 1 {
			return up, true
		}
		id = node.Parent
	}
	return nil, false
}

func plainFileOk(node impl.Inode) bool {
	sizes := map[int]int{1: 16, 2: 24, 3: 32}
	sum := 0
	for _, piece := range node.Pieces {
		if piece.Group < 1 || piece.Group > 100000 || piece.Len < 1 || piece.Len > sizes[node.Schema] {
			return false
		}
		sum += piece.Len
	}
	return sizes[node.Schema] > 0 && node.Quota == 0 && len(node.Pieces) <= 40 && node.Len == sum && sum <= 1000 && node.Writer >= 0 && node.Writer <= 9
}

func plainDirOk(node impl.Inode) bool {
	return node.Schema >= 0 && node.Schema <= 3 && node.Quota >= 0 && node.Quota <= 1000 && node.Len == 0 && len(node.Pieces) == 0 && node.Writer == 0
}

func plainOtherOk(t impl.Tree, at int) bool {
	node := t.Nodes[at]
	parent, ok := plainNode(t, node.Parent)
	if !ok || !parent.Dir || !nameByBytes(node.Name) {
		return false
	}
	for i, other := range t.Nodes {
		if i != at && other.Parent == node.Parent && other.Name == node.Name {
			return false
		}
	}
	_, ok = plainUp(t, node.Id)
	return ok
}

// plainTreeOk is TreeOk in the document's own words.
func plainTreeOk(t impl.Tree) bool {
	if len(t.Nodes) == 0 || len(t.Nodes) > 14 || t.Next > 100000 {
		return false
	}
	for i, node := range t.Nodes {
		if i > 0 && t.Nodes[i-1].Id >= node.Id || node.Id >= t.Next {
			return false
		}
		if node.Dir && !plainDirOk(node) || !node.Dir && !plainFileOk(node) {
			return false
		}
		if i > 0 && !plainOtherOk(t, i) {
			return false
		}
	}
	root := t.Nodes[0]
	return root.Id == 1 && root.Parent == 0 && root.Name == "" && root.Dir && root.Schema > 0
}

func plainFind(t impl.Tree, p string) int {
	names, ok := splitByBytes(p)
	if _, there := plainNode(t, 1); !ok || !there {
		return 0
	}
	id := 1
	for _, name := range names {
		at := slices.IndexFunc(t.Nodes, func(node impl.Inode) bool { return node.Parent == id && node.Name == name })
		if at < 0 {
			return 0
		}
		id = t.Nodes[at].Id
	}
	return id
}

// told is what the functions of the chapter tell of one node.
type told struct {
	Path   string
	Kids   []string
	Below  []int
	Schema int
	Used   int
}

func plainTold(t impl.Tree, id int) told {
	var out told
	if !plainTreeOk(t) {
		return out
	}
	for _, node := range t.Nodes {
		if node.Parent == id {
			out.Kids = append(out.Kids, node.Name)
		}
	}
	slices.Sort(out.Kids)
	up, ok := plainUp(t, id)
	if !ok {
		return out
	}
	for _, node := range up[:len(up)-1] {
		out.Path = "/" + node.Name + out.Path
	}
	if id == 1 {
		out.Path = "/"
	}
	for _, node := range up {
		if out.Schema == 0 {
			out.Schema = node.Schema
		}
	}
	for _, node := range t.Nodes {
		above, _ := plainUp(t, node.Id)
		if slices.ContainsFunc(above, func(one impl.Inode) bool { return one.Id == id }) {
			out.Below = append(out.Below, node.Id)
			out.Used += node.Len
		}
	}
	return out
}

func plainRoom(t impl.Tree, id, n int) bool {
	up, ok := plainUp(t, id)
	if !ok || !plainTreeOk(t) {
		return false
	}
	for _, node := range up {
		// Taken as floats, the greatest numbers do not wrap round.
		if node.Quota > 0 && float64(plainTold(t, node.Id).Used)+float64(n) > float64(node.Quota) {
			return false
		}
	}
	return true
}

func wantTold(t *testing.T, what string, tree impl.Tree, id int, want told) {
	t.Helper()
	if got := impl.PathOf(tree, id); got != want.Path {
		t.Errorf("%s: PathOf %d = %q, want %q", what, id, got, want.Path)
	}
	if got := impl.KidsOf(tree, id); !slices.Equal(got, want.Kids) {
		t.Errorf("%s: KidsOf %d = %q, want %q", what, id, got, want.Kids)
	}
	if got := impl.BelowOf(tree, id); !slices.Equal(got, want.Below) {
		t.Errorf("%s: BelowOf %d = %d, want %d", what, id, got, want.Below)
	}
	if got := impl.SchemaAt(tree, id); got != want.Schema {
		t.Errorf("%s: SchemaAt %d = %d, want %d", what, id, got, want.Schema)
	}
	if got := impl.UsedBelow(tree, id); got != want.Used {
		t.Errorf("%s: UsedBelow %d = %d, want %d", what, id, got, want.Used)
	}
}

func wantTreeOk(t *testing.T, what string, tree impl.Tree, want bool) {
	t.Helper()
	if plainTreeOk(tree) != want {
		t.Errorf("%s: the test's own TreeOk is %t", what, !want)
	}
	if got := impl.TreeOk(tree); got != want {
		t.Errorf("%s: TreeOk = %t", what, got)
	}
}

func wantFound(t *testing.T, what string, tree impl.Tree, p string, want int) {
	t.Helper()
	if got := plainFind(tree, p); got != want {
		t.Errorf("%s: the test's own FindPath %.40q = %d, want %d", what, p, got, want)
	}
	if got := impl.FindPath(tree, p); got != want {
		t.Errorf("%s: FindPath %.40q = %d, want %d", what, p, got, want)
	}
}

func wantRoom(t *testing.T, what string, tree impl.Tree, id, n int, want bool) {
	t.Helper()
	if got := impl.RoomFor(tree, id, n); got != want {
		t.Errorf("%s: RoomFor %d, %d = %t", what, id, n, got)
	}
}

// idsAbout has each Id of the tree, and many that no node has; 0 is by itself, as the root's Parent.
func idsAbout(tree impl.Tree) []int {
	ids := []int{-1, -2, 1, 2, 99999, 100000, 100001, 1<<32 + 1, math.MaxInt, math.MaxInt - 1, math.MinInt, math.MinInt + 1, tree.Next, tree.Next - 1}
	for _, node := range tree.Nodes {
		ids = append(ids, node.Id, node.Parent)
	}
	slices.Sort(ids)
	return slices.DeleteFunc(slices.Compact(ids), func(id int) bool { return id == 0 })
}

func numbersAbout(quota int) []int {
	return []int{0, 1, -1, quota, quota + 1, -quota, 1 << 32, -1 << 32, math.MaxInt, math.MaxInt - 1000, math.MinInt, math.MinInt + 1000}
}

// wantNotRight tells that of a tree that is not right nothing is told, whatever node is asked for.
func wantNotRight(t *testing.T, what string, tree impl.Tree) {
	t.Helper()
	wantTreeOk(t, what, tree, false)
	for _, id := range append(idsAbout(tree), 0) {
		wantTold(t, what, tree, id, told{})
		for _, n := range numbersAbout(10) {
			wantRoom(t, what, tree, id, n, false)
		}
	}
}

// wantAsPlain holds all that is told of a tree, be it right or not, against the test's own.
func wantAsPlain(t *testing.T, what string, tree impl.Tree) {
	t.Helper()
	if got, want := impl.TreeOk(tree), plainTreeOk(tree); got != want {
		t.Errorf("%s: TreeOk = %t of %+v", what, got, tree)
	}
	for _, id := range idsAbout(tree) {
		wantTold(t, what, tree, id, plainTold(tree, id))
		for _, n := range []int{0, 500, math.MaxInt} {
			wantRoom(t, what, tree, id, n, plainRoom(tree, id, n))
		}
	}
}

// grown is a right tree and the path of each node, which was known before the node was.
type grown struct {
	tree  impl.Tree
	paths map[int]string
}

func (d *draw) pieces(node *impl.Inode) {
	size := []int{16, 24, 32}[node.Schema-1]
	for range d.below(41) {
		length := 1 + d.below(size)
		if node.Len+length > 1000 {
			return
		}
		node.Pieces = append(node.Pieces, impl.Piece{Group: 1 + d.below(100000), Len: length})
		node.Len += length
	}
}

func (d *draw) inode() impl.Inode {
	if d.below(2) == 0 {
		node := impl.Inode{Dir: true, Schema: d.below(4)}
		if d.below(2) == 0 {
			node.Quota = d.below(1001)
		}
		return node
	}
	node := impl.Inode{Schema: 1 + d.below(3), Writer: d.below(10)}
	d.pieces(&node)
	return node
}

// ids draws ascending Ids from 1 on; the last ones may be the greatest that there are.
func (d *draw) ids(count int) []int {
	ids := []int{1}
	for len(ids) < count {
		ids = append(ids, ids[len(ids)-1]+1+d.below(3)*d.below(3000))
	}
	if count > 1 && d.below(5) == 0 {
		ids[count-1] = 99999
	}
	return ids
}

// grow draws a right tree: new nodes go below directories that are there already, but their Ids are
// dealt in another order, so that a Parent may stand behind its kids.
func (d *draw) grow(count int) grown {
	ids := d.ids(count)
	for i := count - 1; i > 1; i-- {
		j := 1 + d.below(i)
		ids[i], ids[j] = ids[j], ids[i]
	}
	root := impl.Inode{Id: 1, Dir: true, Schema: 1 + d.below(3), Quota: d.below(3) / 2 * d.below(1001)}
	g := grown{tree: impl.Tree{Nodes: []impl.Inode{root}}, paths: map[int]string{1: ""}}
	for len(g.tree.Nodes) < count {
		above := g.tree.Nodes[d.below(len(g.tree.Nodes))]
		name := []string{"a", "b", "0", d.pathName()}[d.below(4)]
		p := g.paths[above.Id] + "/" + name
		taken := slices.ContainsFunc(g.tree.Nodes, func(node impl.Inode) bool { return g.paths[node.Id] == p })
		if !above.Dir || taken || strings.Count(p, "/") > 4 {
			continue
		}
		node := d.inode()
		node.Id, node.Parent, node.Name = ids[len(g.tree.Nodes)], above.Id, name
		g.tree.Nodes = append(g.tree.Nodes, node)
		g.paths[node.Id] = p
	}
	slices.SortFunc(g.tree.Nodes, func(a, b impl.Inode) int { return a.Id - b.Id })
	g.tree.Next = min(100000, g.tree.Nodes[count-1].Id+1+d.below(2)*d.below(100000))
	g.paths[1] = "/"
	return g
}

// under has the Ids of all whose path is p or has it ahead.
func (g grown) under(p string) []int {
	var ids []int
	for _, node := range g.tree.Nodes {
		one := g.paths[node.Id]
		if one == p || p == "/" || strings.HasPrefix(one, p+"/") {
			ids = append(ids, node.Id)
		}
	}
	return ids
}

// kids has the Ids of those whose path is p and one name more.
func (g grown) kids(p string) []int {
	return slices.DeleteFunc(g.under(p), func(id int) bool {
		rest := strings.TrimPrefix(strings.TrimPrefix(g.paths[id], p), "/")
		return rest == "" || strings.Contains(rest, "/")
	})
}

func TestLimitOfTrees(t *testing.T) {
	if impl.MaxNodes != 14 {
		t.Errorf("MaxNodes is %d", impl.MaxNodes)
	}
}

func TestTreeNew(t *testing.T) {
	tree := impl.TreeNew()
	want := impl.Tree{Nodes: []impl.Inode{{Id: 1, Dir: true, Schema: impl.SchemaSmall}}, Next: 2}
	if len(tree.Nodes) != 1 || len(tree.Nodes[0].Pieces) != 0 {
		t.Fatalf("TreeNew() = %+v", tree)
	}
	tree.Nodes[0].Pieces = nil
	if !reflect.DeepEqual(tree, want) {
		t.Errorf("TreeNew() = %+v", tree)
	}
	wantTreeOk(t, "TreeNew", tree, true)
	wantFound(t, "TreeNew", tree, "/", 1)
	wantFound(t, "TreeNew", tree, "/a", 0)
	wantTold(t, "TreeNew", tree, 1, told{Path: "/", Below: []int{1}, Schema: 1})
	wantRoom(t, "TreeNew", tree, 1, 1000, true)
}

func TestATreeThatIsWrittenOut(t *testing.T) {
	tree := hall()
	tree.Nodes[1].Schema = 3
	tree.Nodes[4].Schema = 2
	wantTreeOk(t, "hall", tree, true)
	for id, want := range map[int]told{
		1:  {Path: "/", Kids: []string{"a", "b"}, Below: []int{1, 2, 3, 4, 5, 7, 8, 9, 12}, Schema: 1, Used: 104},
		2:  {Path: "/a", Kids: []string{"a", "b"}, Below: []int{2, 3, 4, 5, 7, 8, 12}, Schema: 3, Used: 104},
		3:  {Path: "/a/a/a", Below: []int{3}, Schema: 2, Used: 55},
		4:  {Path: "/a/b", Below: []int{4}, Schema: 1, Used: 16},
		5:  {Path: "/a/a/b", Kids: []string{"0", "a"}, Below: []int{5, 7, 12}, Schema: 2, Used: 33},
		7:  {Path: "/a/a/b/a", Below: []int{7}, Schema: 3, Used: 33},
		8:  {Path: "/a/a", Kids: []string{"a", "b"}, Below: []int{3, 5, 7, 8, 12}, Schema: 3, Used: 88},
		9:  {Path: "/b", Below: []int{9}, Schema: 3},
		12: {Path: "/a/a/b/0", Below: []int{12}, Schema: 2},
	} {
		wantTold(t, "hall", tree, id, want)
		wantFound(t, "hall", tree, want.Path, id)
		if got := plainTold(tree, id); !reflect.DeepEqual(got, want) {
			t.Errorf("the test's own %d is %+v", id, got)
		}
	}
	for _, p := range []string{"/0", "/a/0", "/b/a", "/b/b", "/a/b/a", "/a/b/b", "/a/a/a/a", "/a/a/0", "/a/a/b/b", "/a/a/b/a/a", "/aa", "/c"} {
		wantFound(t, "hall", tree, p, 0)
	}
}

// All that is told of a node goes by its path alone, which is known from the way the tree was made.
func TestTreesThatAreDrawn(t *testing.T) {
	d := draw(109)
	depths, behind := map[int]int{}, 0
	for count := 1; count <= 14; count++ {
		for range 30 {
			g := d.grow(count)
			wantTreeOk(t, "drawn", g.tree, true)
			for _, node := range g.tree.Nodes {
				p := g.paths[node.Id]
				names, _ := splitByBytes(p)
				depths[len(names)]++
				if node.Parent > node.Id {
					behind++
				}
				g.wantNode(t, node, p)
			}
			wantAsPlain(t, "drawn", g.tree)
		}
	}
	for depth := range 5 {
		if depths[depth] < 100 {
			t.Errorf("only %d nodes of the depth %d are drawn", depths[depth], depth)
		}
	}
	if behind < 100 {
		t.Errorf("only %d Parents behind their kids are drawn", behind)
	}
}

func (g grown) wantNode(t *testing.T, node impl.Inode, p string) {
	t.Helper()
	want := told{Path: p, Below: g.under(p), Schema: node.Schema}
	for _, kid := range g.kids(p) {
		one, _ := plainNode(g.tree, kid)
		want.Kids = append(want.Kids, one.Name)
	}
	slices.Sort(want.Kids)
	for _, id := range want.Below {
		one, _ := plainNode(g.tree, id)
		want.Used += one.Len
	}
	for above := node; want.Schema == 0; want.Schema = above.Schema {
		above, _ = plainNode(g.tree, above.Parent)
	}
	wantTold(t, "drawn", g.tree, node.Id, want)
	wantFound(t, "drawn", g.tree, p, node.Id)
	if got := impl.FindPath(g.tree, impl.PathOf(g.tree, node.Id)); got != node.Id {
		t.Errorf("FindPath of PathOf %d = %d", node.Id, got)
	}
}

// What is used is, node by node, what its kids use; of a file it is its Len.
func TestUsedIsTheSumOfWhatTheKidsUse(t *testing.T) {
	d := draw(110)
	for i := range 400 {
		g := d.grow(1 + i%14)
		for _, node := range g.tree.Nodes {
			want := node.Len
			for _, other := range g.tree.Nodes {
				if other.Parent == node.Id {
					want += impl.UsedBelow(g.tree, other.Id)
				}
			}
			if got := impl.UsedBelow(g.tree, node.Id); got != want {
				t.Errorf("UsedBelow %d = %d, its kids use %d, in %+v", node.Id, got, want, g.tree)
			}
		}
	}
}

// Each node has a Schema of its own or none, in all ways, in a row of directories.
func TestSchemaIsItsOwnOrTheNextAbove(t *testing.T) {
	for chosen := range 3 * 4 * 4 * 4 * 4 {
		tree := treeOf(rootNode(), dirNode(2, 1, "a"), dirNode(3, 2, "a"), dirNode(4, 3, "a"), dirNode(5, 4, "a"))
		rest := chosen / 3
		tree.Nodes[0].Schema = 1 + chosen%3
		want := tree.Nodes[0].Schema
		for i := range 4 {
			tree.Nodes[1+i].Schema = rest % 4
			rest /= 4
		}
		for _, node := range tree.Nodes {
			if node.Schema != 0 {
				want = node.Schema
			}
			if got := impl.SchemaAt(tree, node.Id); got != want {
				t.Errorf("%d: SchemaAt %d = %d, want %d", chosen, node.Id, got, want)
			}
		}
	}
}

func TestRoomOfEachDirectoryAbove(t *testing.T) {
	for at, below := range map[int][]int{0: {1, 2, 3, 4, 5, 7, 8, 9, 12}, 1: {2, 3, 4, 5, 7, 8, 12}, 4: {5, 7, 12}, 6: {3, 5, 7, 8, 12}, 8: {12}} {
		tree := changed(hall(), at, func(node *impl.Inode) { node.Quota = 200 })
		left := 200 - impl.UsedBelow(tree, tree.Nodes[at].Id)
		for id := range hallPaths() {
			inside := slices.Contains(below, id)
			wantRoom(t, "a Quota just met", tree, id, left, true)
			wantRoom(t, "a Quota just passed", tree, id, left+1, !inside)
			wantRoom(t, "no bytes", tree, id, 0, true)
			wantRoom(t, "the greatest number", tree, id, math.MaxInt, !inside)
			wantRoom(t, "the greatest number but the Quota", tree, id, math.MaxInt-left, !inside)
			wantRoom(t, "the least number", tree, id, math.MinInt, true)
		}
	}
}

func TestRoomWithoutAQuota(t *testing.T) {
	for id := range hallPaths() {
		for _, n := range numbersAbout(1000) {
			wantRoom(t, "no Quota", hall(), id, n, true)
		}
	}
}

// A tree may use more than a Quota: it is right all the same, and has room for fewer bytes alone.
func TestRoomWhereMoreIsUsedThanTheQuota(t *testing.T) {
	tree := changed(hall(), 6, func(node *impl.Inode) { node.Quota = 80 })
	wantTreeOk(t, "more is used", tree, true)
	for _, id := range []int{3, 5, 7, 8, 12} {
		for n, want := range map[int]bool{-9: true, -8: true, -7: false, -1: false, 0: false, 1: false, math.MinInt: true, math.MaxInt: false} {
			wantRoom(t, "more is used", tree, id, n, want)
		}
	}
	for _, id := range []int{1, 2, 4, 9} {
		wantRoom(t, "more is used elsewhere", tree, id, 1000, true)
	}
}

func TestRoomBetweenSeveralQuotas(t *testing.T) {
	for root := range 4 {
		for middle := range 4 {
			for last := range 4 {
				tree := treeOf(rootNode(), dirNode(2, 1, "a"), dirNode(3, 2, "b"), fileNode(4, 3, "c", 1, 5), fileNode(5, 1, "d", 1, 7), fileNode(6, 2, "e", 1, 3))
				tree.Nodes[0].Quota, tree.Nodes[1].Quota, tree.Nodes[2].Quota = root*10, middle*8, last*6
				for n := -20; n <= 40; n++ {
					for id := 1; id <= 6; id++ {
						wantRoom(t, "several", tree, id, n, plainRoom(tree, id, n))
					}
					want := (root == 0 || 15+n <= root*10) && (middle == 0 || 8+n <= middle*8) && (last == 0 || 5+n <= last*6)
					wantRoom(t, "all three above", tree, 4, n, want)
				}
			}
		}
	}
}

func TestRoomForOfDrawnTrees(t *testing.T) {
	d := draw(111)
	for i := range 200 {
		g := d.grow(1 + i%14)
		for _, node := range g.tree.Nodes {
			up, _ := plainUp(g.tree, node.Id)
			for _, above := range up {
				left := above.Quota - impl.UsedBelow(g.tree, above.Id)
				for _, n := range []int{left - 1, left, left + 1} {
					wantRoom(t, "drawn", g.tree, node.Id, n, plainRoom(g.tree, node.Id, n))
				}
			}
		}
	}
}

func manyNodes(count int) impl.Tree {
	nodes := []impl.Inode{rootNode()}
	for id := 2; id <= count; id++ {
		nodes = append(nodes, fileNode(id, 1, "f"+strings.Repeat("a", id%3)+string(rune('a'+id%26)), 1, 1))
	}
	return treeOf(nodes[:count]...)
}

func TestTreesByTheNumberOfTheirNodes(t *testing.T) {
	for count := 1; count <= 14; count++ {
		wantTreeOk(t, "as many as may be", manyNodes(count), true)
	}
	for _, count := range []int{0, 15, 16, 20} {
		wantNotRight(t, "another number", manyNodes(count))
	}
	wantNotRight(t, "nothing", impl.Tree{})
	wantNotRight(t, "no nodes, Next 2", impl.Tree{Nodes: []impl.Inode{}, Next: 2})
	wantFound(t, "nothing", impl.Tree{}, "/", 0)
	wantFound(t, "nothing", impl.Tree{}, "/a", 0)
}

func TestTreesByTheirNext(t *testing.T) {
	tree := hall()
	for next, want := range map[int]bool{13: true, 14: true, 99999: true, 100000: true, 12: false, 11: false, 1: false, 0: false, -1: false, 100001: false, 1 << 32: false, math.MaxInt: false, math.MinInt: false} {
		tree.Next = next
		wantTreeOk(t, "Next", tree, want)
		if !want {
			wantNotRight(t, "Next", tree)
		}
	}
	tree.Nodes[8].Id = 99999
	for next, want := range map[int]bool{100000: true, 99999: false, 100001: false} {
		tree.Next = next
		wantTreeOk(t, "Next above 99999", tree, want)
	}
	tree.Nodes[8].Id, tree.Next = 100000, 100001
	wantNotRight(t, "the Id 100000", tree)
	one := impl.TreeNew()
	for next, want := range map[int]bool{2: true, 1: false, 0: false, 100000: true, 100001: false} {
		one.Next = next
		wantTreeOk(t, "the root alone", one, want)
	}
}

func TestTreesByTheirIds(t *testing.T) {
	tree := hall()
	for at := range tree.Nodes {
		wantNotRight(t, "a node twice", impl.Tree{Nodes: slices.Insert(slices.Clone(tree.Nodes), at, tree.Nodes[at]), Next: tree.Next})
		for other := range at {
			turned := cloneTree(tree)
			turned.Nodes[at], turned.Nodes[other] = turned.Nodes[other], turned.Nodes[at]
			wantNotRight(t, "two nodes in the place of one another", turned)
		}
		// Its kids have no Parent then.
		if at > 0 {
			rest := cloneTree(tree)
			rest.Nodes = slices.Delete(rest.Nodes, at, at+1)
			wantTreeOk(t, "one node less", rest, !tree.Nodes[at].Dir || tree.Nodes[at].Id == 12)
		}
	}
	for _, id := range []int{0, -1, 1, 4, 13, 100000, math.MaxInt, math.MinInt} {
		wantNotRight(t, "another Id", changed(tree, 2, func(node *impl.Inode) { node.Id = id }))
	}
	for _, id := range []int{0, -1, 2, 3, math.MaxInt, math.MinInt} {
		wantNotRight(t, "another Id of the root", changed(tree, 0, func(node *impl.Inode) { node.Id = id }))
		wantNotRight(t, "a root alone of another Id", impl.Tree{Nodes: []impl.Inode{{Id: id, Dir: true, Schema: 1}}, Next: 100000})
	}
	ahead := impl.Tree{Nodes: slices.Insert(slices.Clone(tree.Nodes), 0, dirNode(0, 1, "z")), Next: 20}
	wantNotRight(t, "a node ahead of the root", ahead)
	ahead.Nodes[0].Id = -5
	wantNotRight(t, "a node ahead of the root", ahead)
}

func TestTheRootOfATree(t *testing.T) {
	wantNotRight(t, "no root", impl.Tree{Nodes: hall().Nodes[1:], Next: 20})
	for what, change := range map[string]func(node *impl.Inode){
		"a file":               func(node *impl.Inode) { node.Dir = false },
		"a Name":               func(node *impl.Inode) { node.Name = "a" },
		"a slash as its Name":  func(node *impl.Inode) { node.Name = "/" },
		"a Parent":             func(node *impl.Inode) { node.Parent = 2 },
		"itself as its Parent": func(node *impl.Inode) { node.Parent = 1 },
		"a Parent below 0":     func(node *impl.Inode) { node.Parent = -1 },
		"no Schema":            func(node *impl.Inode) { node.Schema = 0 },
		"Schema 4":             func(node *impl.Inode) { node.Schema = 4 },
		"a Schema below 0":     func(node *impl.Inode) { node.Schema = -1 },
		"a Quota below 0":      func(node *impl.Inode) { node.Quota = -1 },
		"a Quota above 1000":   func(node *impl.Inode) { node.Quota = 1001 },
		"a Len":                func(node *impl.Inode) { node.Len = 1 },
		"a Len below 0":        func(node *impl.Inode) { node.Len = -1 },
		"a Piece":              func(node *impl.Inode) { node.Pieces = []impl.Piece{{Group: 1, Len: 1}} },
		"a Piece and its Len":  func(node *impl.Inode) { node.Pieces, node.Len = []impl.Piece{{Group: 1, Len: 1}}, 1 },
		"a Piece of nothing":   func(node *impl.Inode) { node.Pieces = []impl.Piece{{}} },
		"a Writer":             func(node *impl.Inode) { node.Writer = 1 },
	} {
		wantNotRight(t, "a root with "+what, changed(hall(), 0, change))
		wantNotRight(t, "a root alone with "+what, changed(impl.TreeNew(), 0, change))
	}
	for s := 1; s <= 3; s++ {
		for _, quota := range []int{0, 1, 999, 1000} {
			tree := changed(impl.TreeNew(), 0, func(node *impl.Inode) { node.Schema, node.Quota = s, quota })
			wantTreeOk(t, "a root", tree, true)
			wantTold(t, "a root", tree, 1, told{Path: "/", Below: []int{1}, Schema: s})
		}
	}
}

func TestNodesOfOneName(t *testing.T) {
	tree := treeOf(rootNode(), dirNode(2, 1, "a"), dirNode(3, 1, "b"), fileNode(4, 2, "a", 1, 4), fileNode(5, 3, "a", 1, 5), dirNode(6, 2, "b"))
	wantTreeOk(t, "one name under unlike Parents", tree, true)
	for p, id := range map[string]int{"/a": 2, "/b": 3, "/a/a": 4, "/b/a": 5, "/a/b": 6, "/b/b": 0} {
		wantFound(t, "one name under unlike Parents", tree, p, id)
	}
	for _, second := range []impl.Inode{dirNode(7, 1, "a"), fileNode(7, 1, "a", 1), fileNode(7, 2, "a", 3), dirNode(7, 2, "a"), fileNode(7, 3, "a", 1, 16), dirNode(7, 2, "b")} {
		twice := impl.Tree{Nodes: append(slices.Clone(tree.Nodes), second), Next: 8}
		wantNotRight(t, "one name twice", twice)
		for p, id := range map[string]int{"/a": 2, "/b": 3, "/a/a": 4, "/b/a": 5, "/a/b": 6} {
			wantFound(t, "one name twice", twice, p, id)
		}
		second.Name = "c"
		wantTreeOk(t, "another name", impl.Tree{Nodes: append(slices.Clone(tree.Nodes), second), Next: 8}, true)
	}
	// The first one in the list counts, not the one with the least Id, nor the one that has kids.
	order := treeOf(rootNode(), dirNode(9, 1, "a"), dirNode(2, 1, "a"), fileNode(3, 2, "x", 1), fileNode(4, 9, "y", 1))
	wantNotRight(t, "one name twice", order)
	for p, id := range map[string]int{"/a": 9, "/a/x": 0, "/a/y": 4} {
		wantFound(t, "one name twice", order, p, id)
	}
}

func TestNamesOfNodes(t *testing.T) {
	for what, name := range noNames() {
		wantNotRight(t, what, changed(hall(), 3, func(node *impl.Inode) { node.Name = name }))
		wantNotRight(t, what, changed(hall(), 1, func(node *impl.Inode) { node.Name = name }))
	}
	for _, name := range []string{"/", "a/b", "/a", "a/"} {
		wantNotRight(t, "a name with a slash", changed(hall(), 3, func(node *impl.Inode) { node.Name = name }))
	}
	for _, name := range []string{"z", "9", "abcdefgh", "01234567"} {
		tree := changed(hall(), 3, func(node *impl.Inode) { node.Name = name })
		wantTreeOk(t, "a name", tree, true)
		wantFound(t, "a name", tree, "/a/"+name, 4)
	}
}

func TestParentsOfNodes(t *testing.T) {
	for _, parent := range []int{0, -1, 3, 4, 6, 7, 9, 11, 13, 100000, math.MaxInt, math.MinInt, 1<<32 + 1} {
		// 3, 4, 7 and 9 are files, the others are no nodes.
		wantNotRight(t, "a Parent that is none", changed(hall(), 8, func(node *impl.Inode) { node.Parent = parent }))
	}
	for parent, p := range map[int]string{1: "/0", 2: "/a/0", 8: "/a/a/0", 5: "/a/a/b/0"} {
		tree := changed(hall(), 8, func(node *impl.Inode) { node.Parent = parent })
		wantTreeOk(t, "a Parent", tree, true)
		wantFound(t, "a Parent", tree, p, 12)
	}
	// Each node below a Parent that stands behind it.
	tree := treeOf(rootNode(), fileNode(2, 3, "d", 1, 9), dirNode(3, 4, "c"), dirNode(4, 5, "b"), dirNode(5, 1, "a"))
	wantTreeOk(t, "Parents behind", tree, true)
	wantFound(t, "Parents behind", tree, "/a/b/c/d", 2)
	wantTold(t, "Parents behind", tree, 2, told{Path: "/a/b/c/d", Below: []int{2}, Schema: 1, Used: 9})
	wantTold(t, "Parents behind", tree, 4, told{Path: "/a/b", Kids: []string{"c"}, Below: []int{2, 3, 4}, Schema: 1, Used: 9})
	wantNotRight(t, "a file with a kid", changed(tree, 4, func(node *impl.Inode) { node.Dir, node.Schema = false, 1 }))
	wantNotRight(t, "a file with a kid", changed(tree, 2, func(node *impl.Inode) { node.Dir, node.Schema = false, 1 }))
}

// rowOf is a row of directories, each below the one ahead of it or, turned, behind it.
func rowOf(depth int, turned bool) impl.Tree {
	nodes := []impl.Inode{rootNode()}
	for i := range depth {
		id := 2 + i
		switch {
		case !turned:
			nodes = append(nodes, dirNode(id, id-1, "a"))
		case i == depth-1:
			nodes = append(nodes, dirNode(id, 1, "a"))
		default:
			nodes = append(nodes, dirNode(id, id+1, "a"))
		}
	}
	return treeOf(nodes...)
}

func TestTreesByTheirDepths(t *testing.T) {
	for depth := 1; depth <= 13; depth++ {
		for _, turned := range []bool{false, true} {
			tree := rowOf(depth, turned)
			deepest := depth + 1
			if turned {
				deepest = 2
			}
			if depth > 4 {
				wantNotRight(t, "too deep", tree)
				// It goes by as many names as a path may have.
				wantFound(t, "too deep", tree, "/a/a/a/a", plainFind(tree, "/a/a/a/a"))
				wantFound(t, "too deep", tree, "/a/a/a/a/a", 0)
				continue
			}
			wantTreeOk(t, "a depth", tree, true)
			p := strings.Repeat("/a", depth)
			wantFound(t, "a depth", tree, p, deepest)
			wantFound(t, "a depth", tree, p+"/a", 0)
			if got := impl.PathOf(tree, deepest); got != p {
				t.Errorf("PathOf %d = %q, want %q", deepest, got, p)
			}
			if got := impl.BelowOf(tree, 1); len(got) != depth+1 || !slices.IsSorted(got) {
				t.Errorf("BelowOf the root of a row of %d = %d", depth, got)
			}
		}
	}
	five := hall()
	five.Nodes = append(five.Nodes, fileNode(13, 12, "a", 1))
	five.Next = 14
	wantNotRight(t, "a file five steps below the root", five)
	wantFound(t, "a file five steps below the root", five, "/a/a/b/0", 12)
	wantFound(t, "a file five steps below the root", five, "/a/a/b/0/a", 0)
}

func TestNodesThatGoRound(t *testing.T) {
	for what, tree := range map[string]impl.Tree{
		"itself":                     treeOf(rootNode(), dirNode(2, 2, "a")),
		"itself, beside others":      treeOf(rootNode(), dirNode(2, 1, "a"), dirNode(3, 3, "b"), fileNode(4, 2, "c", 1, 1)),
		"a file that is its own":     treeOf(rootNode(), fileNode(2, 2, "a", 1)),
		"two":                        treeOf(rootNode(), dirNode(2, 3, "a"), dirNode(3, 2, "b")),
		"two of one name":            treeOf(rootNode(), dirNode(2, 3, "a"), dirNode(3, 2, "a")),
		"three":                      treeOf(rootNode(), dirNode(2, 3, "a"), dirNode(3, 4, "b"), dirNode(4, 2, "c")),
		"four":                       treeOf(rootNode(), dirNode(2, 3, "a"), dirNode(3, 4, "b"), dirNode(4, 5, "c"), dirNode(5, 2, "d")),
		"five":                       treeOf(rootNode(), dirNode(2, 3, "a"), dirNode(3, 4, "b"), dirNode(4, 5, "c"), dirNode(5, 6, "d"), dirNode(6, 2, "e")),
		"two and a file below them":  treeOf(rootNode(), dirNode(2, 3, "a"), dirNode(3, 2, "b"), fileNode(4, 3, "c", 1, 1)),
		"two beside those in reach":  treeOf(rootNode(), dirNode(2, 3, "a"), dirNode(3, 2, "b"), dirNode(4, 1, "c"), fileNode(5, 4, "d", 1, 1)),
		"the root and one below it":  {Nodes: []impl.Inode{{Id: 1, Parent: 2, Dir: true, Schema: 1}, dirNode(2, 1, "a")}, Next: 3},
		"the root and its own name":  {Nodes: []impl.Inode{{Id: 1, Parent: 1, Name: "a", Dir: true, Schema: 1}}, Next: 2},
		"the root and another's kid": {Nodes: []impl.Inode{{Id: 1, Parent: 2, Name: "b", Dir: true, Schema: 1}, dirNode(2, 1, "a")}, Next: 3},
	} {
		wantNotRight(t, what, tree)
		for _, p := range textsOf("ab", 4) {
			p = strings.Join(strings.Split(p, ""), "/")
			wantFound(t, what, tree, "/"+p, plainFind(tree, "/"+p))
		}
	}
	own := impl.Tree{Nodes: []impl.Inode{{Id: 1, Parent: 1, Name: "a", Dir: true, Schema: 1}}, Next: 2}
	for depth := range 5 {
		wantFound(t, "its own kid", own, joinByBytes(slices.Repeat([]string{"a"}, depth)...), 1)
	}
	wantFound(t, "its own kid", own, "/a/a/a/a/a", 0)
}

func TestDirectories(t *testing.T) {
	for _, at := range []int{1, 4, 6, 8} {
		for s := range 4 {
			for _, quota := range []int{0, 1, 500, 999, 1000} {
				tree := changed(hall(), at, func(node *impl.Inode) { node.Schema, node.Quota = s, quota })
				wantTreeOk(t, "a directory", tree, true)
				wantAsPlain(t, "a directory", tree)
			}
		}
		for _, s := range []int{-1, 4, 5, 256, 257, 1<<32 + 1, math.MaxInt, math.MinInt} {
			wantNotRight(t, "a Schema of a directory", changed(hall(), at, func(node *impl.Inode) { node.Schema = s }))
		}
		for _, quota := range []int{-1, 1001, -1000, 1 << 32, math.MaxInt, math.MinInt} {
			wantNotRight(t, "a Quota", changed(hall(), at, func(node *impl.Inode) { node.Quota = quota }))
		}
		for _, n := range []int{1, -1, 9, 10, math.MaxInt, math.MinInt} {
			wantNotRight(t, "a directory with a Len", changed(hall(), at, func(node *impl.Inode) { node.Len = n }))
			wantNotRight(t, "a directory with a Writer", changed(hall(), at, func(node *impl.Inode) { node.Writer = n }))
		}
		wantNotRight(t, "a directory with Pieces", changed(hall(), at, func(node *impl.Inode) { *node = withPieces(*node, 1) }))
		wantNotRight(t, "a directory with a Piece of nothing", changed(hall(), at, func(node *impl.Inode) { node.Pieces = []impl.Piece{{}} }))
		none := changed(hall(), at, func(node *impl.Inode) { node.Pieces = []impl.Piece{} })
		wantTreeOk(t, "a directory with a list of no Pieces", none, true)
	}
}

// withPieces has these Pieces alone, and a Len that is their sum.
func withPieces(node impl.Inode, lengths ...int) impl.Inode {
	made := fileNode(node.Id, node.Parent, node.Name, node.Schema, lengths...)
	node.Pieces, node.Len = made.Pieces, made.Len
	return node
}

func TestFilesOfATree(t *testing.T) {
	for _, at := range []int{2, 3, 5, 7} {
		for s := 1; s <= 3; s++ {
			for writer := range 10 {
				tree := changed(hall(), at, func(node *impl.Inode) {
					*node = fileNode(node.Id, node.Parent, node.Name, s, 1, 16)
					node.Writer = writer
				})
				wantTreeOk(t, "a file", tree, true)
			}
		}
		for _, s := range append(wrongSchemas(), 0) {
			wantNotRight(t, "a Schema of a file", changed(hall(), at, func(node *impl.Inode) { node.Schema = s }))
			wantNotRight(t, "a Schema of an empty file", changed(hall(), at, func(node *impl.Inode) { *node = fileNode(node.Id, node.Parent, node.Name, s) }))
		}
		for _, quota := range []int{1, -1, 1000, math.MaxInt, math.MinInt} {
			wantNotRight(t, "a file with a Quota", changed(hall(), at, func(node *impl.Inode) { node.Quota = quota }))
		}
		for _, writer := range []int{-1, 10, 11, 256, 257, 1 << 32, math.MaxInt, math.MinInt} {
			wantNotRight(t, "a Writer", changed(hall(), at, func(node *impl.Inode) { node.Writer = writer }))
		}
	}
}

func TestPiecesOfAFile(t *testing.T) {
	for _, c := range schemas() {
		size := c.units * 8
		with := func(group, length int) impl.Tree {
			node := fileNode(2, 1, "f", c.s, 3, length, 5)
			node.Pieces[1].Group = group
			return treeOf(rootNode(), node)
		}
		for _, group := range []int{1, 2, 3, 99999, 100000} {
			for _, length := range []int{1, 2, size - 1, size} {
				tree := with(group, length)
				wantTreeOk(t, "a Piece", tree, true)
				wantTold(t, "a Piece", tree, 2, told{Path: "/f", Below: []int{2}, Schema: c.s, Used: 8 + length})
				wantTold(t, "a Piece", tree, 1, told{Path: "/", Kids: []string{"f"}, Below: []int{1, 2}, Schema: 1, Used: 8 + length})
			}
			for _, length := range []int{0, -1, -8, size + 1, 1000, math.MaxInt, math.MinInt, 1 << 32} {
				wantNotRight(t, "a Piece's Len", with(group, length))
			}
		}
		for _, group := range []int{0, -1, 100001, 1 << 32, 1<<32 + 1, math.MaxInt, math.MinInt} {
			wantNotRight(t, "a Piece's Group", with(group, 1))
		}
	}
	// The lengths of two Pieces that wrap round to the Len are still none.
	node := impl.Inode{Id: 2, Parent: 1, Name: "f", Schema: 1, Len: 2, Pieces: []impl.Piece{{Group: 1, Len: math.MaxInt}, {Group: 2, Len: 2}, {Group: 3, Len: math.MaxInt}, {Group: 4, Len: 2}}}
	wantNotRight(t, "Pieces that wrap round", treeOf(rootNode(), node))
}

func TestTheNumberOfPieces(t *testing.T) {
	for s := 1; s <= 3; s++ {
		for count, want := range map[int]bool{0: true, 1: true, 39: true, 40: true, 41: false, 42: false, 80: false, 1000: false} {
			tree := treeOf(rootNode(), fileNode(2, 1, "f", s, slices.Repeat([]int{1}, count)...))
			wantTreeOk(t, "as many Pieces", tree, want)
			if !want {
				wantNotRight(t, "as many Pieces", tree)
			}
		}
	}
}

func TestTheLenOfAFile(t *testing.T) {
	for _, n := range []int{0, 1, 54, 56, 1000, 1001, -55, -1, math.MaxInt, math.MinInt, 55 + 1<<32} {
		wantNotRight(t, "another Len", changed(hall(), 2, func(node *impl.Inode) { node.Len = n }))
	}
	for _, n := range []int{1, -1, 1000, math.MaxInt} {
		wantNotRight(t, "a Len without Pieces", changed(hall(), 7, func(node *impl.Inode) { node.Len = n }))
	}
	for last, want := range map[int]bool{7: true, 8: true, 9: false, 32: false} {
		file := fileNode(2, 1, "f", 3, append(slices.Repeat([]int{32}, 31), last)...)
		wantTreeOk(t, "992 bytes and more", treeOf(rootNode(), file), want)
		if !want {
			wantNotRight(t, "992 bytes and more", treeOf(rootNode(), file))
			// A Len that says no more than may be does not help.
			file.Len = 1000
			wantNotRight(t, "a lesser Len", treeOf(rootNode(), file))
		}
	}
	wantTreeOk(t, "40 Pieces of 25", treeOf(rootNode(), fileNode(2, 1, "f", 3, slices.Repeat([]int{25}, 40)...)), true)
	wantNotRight(t, "40 Pieces of 32", treeOf(rootNode(), fileNode(2, 1, "f", 3, slices.Repeat([]int{32}, 40)...)))
}

func TestTheGreatestTree(t *testing.T) {
	nodes := []impl.Inode{rootNode()}
	for id := 2; id <= 14; id++ {
		nodes = append(nodes, fileNode(id, 1, nameBytes[id:id+8], 3, slices.Repeat([]int{25}, 40)...))
	}
	tree := treeOf(nodes...)
	wantTreeOk(t, "13 files of 1000 bytes", tree, true)
	if got := impl.UsedBelow(tree, 1); got != 13000 {
		t.Errorf("13 files of 1000 bytes use %d", got)
	}
	tree.Nodes[0].Quota = 1000
	wantRoom(t, "13 files of 1000 bytes", tree, 1, -12000, true)
	wantRoom(t, "13 files of 1000 bytes", tree, 1, -11999, false)
	wantRoom(t, "13 files of 1000 bytes", tree, 14, math.MaxInt-12999, false)
	wantRoom(t, "13 files of 1000 bytes", tree, 14, math.MinInt, true)
}

func TestIdsThatNoNodeHas(t *testing.T) {
	tree := hall()
	paths := hallPaths()
	for _, id := range append(idsAbout(tree), 6, 10, 11, 13, 20) {
		if paths[id] != "" {
			continue
		}
		wantTold(t, "no node", tree, id, told{})
		for _, n := range numbersAbout(10) {
			wantRoom(t, "no node", tree, id, n, false)
		}
	}
	// The root's Parent is 0, and its Name is empty; there is no node 0 all the same.
	wantTold(t, "the Parent of the root", tree, 0, told{Kids: []string{""}})
	wantRoom(t, "the Parent of the root", tree, 0, 0, false)
}

func TestTextsThatFindNoNode(t *testing.T) {
	tree := hall()
	for _, p := range []string{"", "a", "a/", "/a/", "//", "//a", "/a//a", " /a", "/a ", "/A", "/.", "/..", "/a/..", "/a/./a", "/\x00", "/a\x00", "\x00", "/a/a/a/", "/a/a/b/a/", "/a/a/b/a/a", "/abcdefghi", "/\u00e9", "\\a", strings.Repeat("/", 5), strings.Repeat("/a", 1000), strings.Repeat("a", 100000)} {
		wantFound(t, "no path", tree, p, 0)
	}
	for _, p := range textsOf("/ab", 8) {
		wantFound(t, "a short text", tree, p, plainFind(tree, p))
	}
	// A name that is none finds no node, though one has it.
	for _, name := range []string{"", "A", "abcdefghi", "a b", "."} {
		odd := changed(tree, 1, func(node *impl.Inode) { node.Name = name })
		wantFound(t, "a name that is none", odd, "/"+name, map[bool]int{true: 1}[name == ""])
		wantFound(t, "a name that is none", odd, "/"+name+"/a", 0)
		wantFound(t, "a name that is none", odd, "/b", 9)
	}
}

// The path is gone by Parents, Names and Ids, and by nothing else that stands in the nodes.
func TestFindPathInTreesThatAreNotRight(t *testing.T) {
	nodes := hall().Nodes
	behind := impl.Tree{Nodes: slices.Concat(nodes[1:], nodes[:1])}
	wantNotRight(t, "the root behind all", behind)
	turned := impl.Tree{Nodes: slices.Clone(nodes)}
	slices.Reverse(turned.Nodes)
	wantNotRight(t, "all turned about", turned)
	odd := cloneTree(impl.Tree{Nodes: nodes, Next: -7})
	for i := range odd.Nodes {
		odd.Nodes[i].Dir, odd.Nodes[i].Schema, odd.Nodes[i].Quota, odd.Nodes[i].Len, odd.Nodes[i].Writer = !odd.Nodes[i].Dir, -1, -1, -1, -1
	}
	wantNotRight(t, "odd nodes", odd)
	named := changed(hall(), 0, func(node *impl.Inode) { node.Name, node.Parent = "top", 77 })
	wantNotRight(t, "a root with a Name and a Parent", named)
	for id, p := range hallPaths() {
		wantFound(t, "the root behind all", behind, p, id)
		wantFound(t, "all turned about", turned, p, id)
		wantFound(t, "odd nodes", odd, p, id)
		wantFound(t, "a root with a Name and a Parent", named, p, id)
		wantFound(t, "no root", impl.Tree{Nodes: nodes[1:], Next: 20}, p, 0)
		wantFound(t, "a root of another Id", changed(hall(), 0, func(node *impl.Inode) { node.Id = 0 }), p, 0)
	}
	wantFound(t, "a root with a Name", named, "/top", 0)
	far := impl.Tree{Nodes: []impl.Inode{fileNode(-3, math.MinInt, "b", 1), dirNode(math.MinInt, 1, "a"), dirNode(math.MaxInt, 1, "c"), dirNode(1, -1, "x"), dirNode(5, math.MaxInt, "d")}}
	wantNotRight(t, "far Ids", far)
	for p, id := range map[string]int{"/": 1, "/a": math.MinInt, "/a/b": -3, "/c": math.MaxInt, "/c/d": 5, "/x": 0, "/b": 0} {
		wantFound(t, "far Ids", far, p, id)
	}
	// Two nodes of one Id have the same kids.
	same := impl.Tree{Nodes: []impl.Inode{rootNode(), dirNode(2, 1, "a"), dirNode(2, 1, "b"), dirNode(3, 2, "c"), dirNode(1, 3, "d")}, Next: 4}
	wantNotRight(t, "one Id twice", same)
	for p, id := range map[string]int{"/a": 2, "/b": 2, "/a/c": 3, "/b/c": 3, "/a/c/d": 1, "/b/c/d/a": 2, "/c": 0} {
		wantFound(t, "one Id twice", same, p, id)
	}
	// A file in the way, and more nodes than a tree may have.
	wantFound(t, "a file in the way", treeOf(rootNode(), fileNode(2, 1, "a", 1), fileNode(3, 2, "b", 1)), "/a/b", 3)
	many := manyNodes(20)
	for i := range 500 {
		many.Nodes = append(many.Nodes, dirNode(100+i, 1, "x"+strings.Repeat("y", i%7)))
	}
	many.Nodes = append(many.Nodes, fileNode(9999, 103, "z", 1))
	wantFound(t, "many nodes", many, "/xyyy", 103)
	wantFound(t, "many nodes", many, "/xyyy/z", 9999)
}

// One to three fields of a drawn tree are others; most of these trees are not right any more.
func TestTreesThatAreDrawnAndChanged(t *testing.T) {
	d := draw(112)
	numbers := []int{0, 1, 2, 3, 4, -1, 9, 10, 16, 17, 40, 1000, 1001, 99999, 100000, 100001, math.MaxInt, math.MinInt}
	right := 0
	for i := range 3000 {
		g := d.grow(1 + i%14)
		tree := cloneTree(g.tree)
		for range 1 + d.below(3) {
			node := &tree.Nodes[d.below(len(tree.Nodes))]
			other := tree.Nodes[d.below(len(tree.Nodes))]
			n := numbers[d.below(len(numbers))]
			switch d.below(12) {
			case 0:
				node.Id = n
			case 1:
				node.Parent = n
			case 2, 3:
				node.Parent = other.Id
			case 4, 5:
				node.Name = other.Name
			case 6:
				node.Dir = !node.Dir
			case 7:
				node.Schema = n
			case 8:
				node.Quota = n
			case 9:
				node.Len = n
			case 10:
				node.Writer = n
			case 11:
				tree.Next = n
			}
		}
		if plainTreeOk(tree) {
			right++
		}
		wantAsPlain(t, "drawn and changed", tree)
		for _, p := range g.paths {
			wantFound(t, "drawn and changed", tree, p, plainFind(tree, p))
			wantFound(t, "drawn and changed", tree, p+"/a", plainFind(tree, p+"/a"))
		}
	}
	if right < 150 || right > 2000 {
		t.Errorf("%d of the 3000 trees are right", right)
	}
}

// No two nodes of a right tree have one path.
func TestEachPathIsThatOfOneNode(t *testing.T) {
	d := draw(113)
	for i := range 300 {
		g := d.grow(1 + i%14)
		seen := map[string]int{}
		for _, id := range impl.BelowOf(g.tree, 1) {
			p := impl.PathOf(g.tree, id)
			if seen[p] != 0 || p == "" {
				t.Errorf("%d and %d have the path %q", seen[p], id, p)
			}
			seen[p] = id
			if parent, name, ok := impl.ParentPath(p); ok && !slices.Contains(impl.KidsOf(g.tree, impl.FindPath(g.tree, parent)), name) {
				t.Errorf("KidsOf %q has no %q", parent, name)
			}
		}
		if len(seen) != len(g.tree.Nodes) {
			t.Errorf("%d paths of %d nodes", len(seen), len(g.tree.Nodes))
		}
	}
}

// callTree calls all functions of the chapter.
func callTree(tree impl.Tree, id int, p string) {
	impl.TreeOk(tree)
	impl.FindPath(tree, p)
	impl.PathOf(tree, id)
	impl.KidsOf(tree, id)
	impl.BelowOf(tree, id)
	impl.SchemaAt(tree, id)
	impl.UsedBelow(tree, id)
	impl.RoomFor(tree, id, 7)
}

func TestTreesWriteIntoNoArgument(t *testing.T) {
	d := draw(114)
	behind := fileNode(77, 77, "behind", 3, 5)
	for i := range 300 {
		tree := d.grow(1 + i%14).tree
		if i%3 == 0 {
			// Not right, with the nodes in another order.
			slices.Reverse(tree.Nodes)
		}
		tree.Nodes = spare(tree.Nodes, behind)
		for j := range tree.Nodes {
			tree.Nodes[j].Pieces = spare(tree.Nodes[j].Pieces, impl.Piece{Group: 77, Len: 77})
		}
		whole := impl.Tree{Nodes: tree.Nodes[:len(tree.Nodes)+3], Next: tree.Next}
		before := cloneTree(whole)
		var rooms []impl.Piece
		for j, node := range tree.Nodes {
			callTree(tree, node.Id, "/a")
			callTree(tree, -j, "/a/b")
			rooms = append(rooms, node.Pieces[len(node.Pieces):len(node.Pieces)+3]...)
		}
		if after := cloneTree(whole); !reflect.DeepEqual(before, after) {
			t.Fatalf("a tree, or what is behind it, is written into: %+v, not %+v", after, before)
		}
		if slices.ContainsFunc(rooms, func(piece impl.Piece) bool { return piece != impl.Piece{Group: 77, Len: 77} }) {
			t.Fatalf("what is behind Pieces is written into: %+v", rooms)
		}
	}
	room := []byte("/a/bbehind")
	tree := hall()
	name := []byte("bbehind")
	tree.Nodes[3].Name = unsafe.String(&name[0], 1)
	callTree(tree, 4, unsafe.String(&room[0], 4))
	if string(room) != "/a/bbehind" || string(name) != "bbehind" {
		t.Errorf("a path or a name, or what is behind it, is written into: %q, %q", room, name)
	}
}

func TestTreesAreNewMemory(t *testing.T) {
	tree := hall()
	var names []string
	for i := range tree.Nodes {
		tree.Nodes[i].Name = ownText(tree.Nodes[i].Name)
		names = append(names, tree.Nodes[i].Name)
	}
	for id, p := range hallPaths() {
		if id != 1 {
			wantNewTexts(t, "PathOf", []string{impl.PathOf(tree, id)}, names)
		}
		wantNewTexts(t, "KidsOf", impl.KidsOf(tree, id), names)
		kids, below := impl.KidsOf(tree, id), impl.BelowOf(tree, id)
		wantKids, wantBelow := slices.Clone(kids), slices.Clone(below)
		for i := range kids[:cap(kids)] {
			kids[:cap(kids)][i] = "another"
		}
		for i := range below[:cap(below)] {
			below[:cap(below)][i] = -1
		}
		wantTold(t, p, tree, id, told{Path: p, Kids: wantKids, Below: wantBelow, Schema: impl.SchemaAt(tree, id), Used: impl.UsedBelow(tree, id)})
	}
	one := impl.TreeNew()
	for i := range one.Nodes[:cap(one.Nodes)] {
		one.Nodes[:cap(one.Nodes)][i] = fileNode(7, 7, "another", 3, 7)
	}
	if two := impl.TreeNew(); !impl.TreeOk(two) || len(two.Nodes) != 1 || two.Nodes[0].Name != "" || len(two.Nodes[0].Pieces) != 0 {
		t.Errorf("TreeNew() = %+v, behind a change of another one", two)
	}
}

// What hangs on the order in which a map is gone through would show in some of these.
func TestOfOneTreeTheAnswerIsTheSame(t *testing.T) {
	d := draw(115)
	for range 20 {
		g := d.grow(14)
		flat := manyNodes(14)
		twice := cloneTree(flat)
		for i := range twice.Nodes[1:] {
			twice.Nodes[1+i].Name = "a"
		}
		for range 50 {
			for _, node := range g.tree.Nodes {
				g.wantNode(t, node, g.paths[node.Id])
			}
			wantTold(t, "flat", flat, 1, plainTold(flat, 1))
			wantFound(t, "one name thirteen times", twice, "/a", 2)
			wantTreeOk(t, "one name thirteen times", twice, false)
		}
	}
}
