package tests

import (
	"math"
	"slices"
	"strings"
	"testing"
	"unsafe"

	"loop.example/g00197/impl"
)

func editMake(p string) impl.Edit { return impl.Edit{Kind: impl.EdMake, Path: p} }

func editCreate(p string, who int) impl.Edit {
	return impl.Edit{Kind: impl.EdCreate, Path: p, Who: who}
}

func editMove(p, to string) impl.Edit { return impl.Edit{Kind: impl.EdMove, Path: p, To: to} }

func editDrop(p string) impl.Edit { return impl.Edit{Kind: impl.EdDrop, Path: p} }

func editSchema(p string, s int) impl.Edit { return impl.Edit{Kind: impl.EdSchema, Path: p, Num: s} }

func editQuota(p string, n int) impl.Edit { return impl.Edit{Kind: impl.EdQuota, Path: p, Num: n} }

func editAdd(p string, n int) impl.Edit { return impl.Edit{Kind: impl.EdAdd, Path: p, Num: n} }

func editClose(p string) impl.Edit { return impl.Edit{Kind: impl.EdClose, Path: p} }

func editOpen(p string, who int) impl.Edit { return impl.Edit{Kind: impl.EdOpen, Path: p, Who: who} }

func editBoot() impl.Edit { return impl.Edit{Kind: impl.EdBoot, Path: "/"} }

func written(node impl.Inode, writer int) impl.Inode {
	node.Writer = writer
	return node
}

func limited(node impl.Inode, quota int) impl.Inode {
	node.Quota = quota
	return node
}

func ofSchema(node impl.Inode, s int) impl.Inode {
	node.Schema = s
	return node
}

// namedTree is a tree by its paths, of which the root's is empty: what stands where is told by them
// alone, not by Parent and Name.
type namedTree struct {
	nodes map[string]impl.Inode
	next  int
}

func namedOf(t impl.Tree) namedTree {
	n := namedTree{nodes: map[string]impl.Inode{}, next: t.Next}
	for _, node := range t.Nodes {
		up, _ := plainUp(t, node.Id)
		p := ""
		for _, one := range up[:len(up)-1] {
			p = "/" + one.Name + p
		}
		n.nodes[p] = node
	}
	return n
}

func abovePath(p string) string {
	return p[:strings.LastIndex(p, "/")]
}

func underPath(p, top string) bool {
	return p == top || strings.HasPrefix(p, top+"/")
}

func (n namedTree) tree() impl.Tree {
	t := impl.Tree{Next: n.next}
	for p, node := range n.nodes {
		if p != "" {
			node.Parent, node.Name = n.nodes[abovePath(p)].Id, p[len(abovePath(p))+1:]
		}
		t.Nodes = append(t.Nodes, node)
	}
	slices.SortFunc(t.Nodes, func(a, b impl.Inode) int { return a.Id - b.Id })
	return t
}

func (n namedTree) used(top string) int {
	sum := 0
	for p, node := range n.nodes {
		if underPath(p, top) {
			sum += node.Len
		}
	}
	return sum
}

func (n namedTree) placeCode(p string) int {
	parent, ok := n.nodes[abovePath(p)]
	_, taken := n.nodes[p]
	switch {
	case !ok:
		return 1
	case !parent.Dir:
		return 3
	case taken:
		return 2
	}
	return 0
}

func (n *namedTree) make(e impl.Edit) int {
	if code := n.placeCode(e.Path); code != 0 {
		return code
	}
	if len(n.nodes) >= 14 || n.next == 100000 {
		return 8
	}
	node := impl.Inode{Id: n.next, Dir: e.Kind == 1, Writer: e.Who}
	for p := e.Path; e.Kind == 2 && node.Schema == 0; {
		p = abovePath(p)
		node.Schema = n.nodes[p].Schema
	}
	n.nodes[e.Path] = node
	n.next++
	return 0
}

func (n *namedTree) move(e impl.Edit) int {
	if code := n.placeCode(e.To); code != 0 {
		return code
	}
	if underPath(e.To, e.Path) {
		return 7
	}
	moved := map[string]impl.Inode{}
	for p, node := range n.nodes {
		if underPath(p, e.Path) {
			p = e.To + p[len(e.Path):]
		}
		if strings.Count(p, "/") > 4 {
			return 8
		}
		moved[p] = node
	}
	n.nodes = moved
	return 0
}

func (n *namedTree) drop(e impl.Edit) int {
	for p := range n.nodes {
		if underPath(p, e.Path) {
			delete(n.nodes, p)
		}
	}
	return 0
}

func (n *namedTree) set(e impl.Edit, p string) int {
	node := n.nodes[p]
	switch {
	case !node.Dir:
		return 3
	case e.Kind == 5:
		node.Schema = e.Num
	case e.Num > 0 && e.Num < n.used(p):
		return 5
	default:
		node.Quota = e.Num
	}
	n.nodes[p] = node
	return 0
}

func (n *namedTree) hold(e impl.Edit) int {
	node := n.nodes[e.Path]
	switch {
	case node.Dir:
		return 3
	case e.Kind == 8 && node.Writer == 0 || e.Kind == 9 && node.Writer > 0:
		return 6
	}
	node.Writer = e.Who
	n.nodes[e.Path] = node
	return 0
}

func (n *namedTree) add(e impl.Edit, groups int) int {
	node := n.nodes[e.Path]
	switch {
	case node.Dir:
		return 3
	case node.Writer == 0:
		return 6
	case node.Len+e.Num > 1000:
		return 5
	}
	for p, one := range n.nodes {
		if underPath(e.Path, p) && one.Quota > 0 && n.used(p)+e.Num > one.Quota {
			return 5
		}
	}
	size := []int{16, 24, 32}[node.Schema-1]
	node.Pieces = slices.Clone(node.Pieces)
	for from := 0; from < e.Num; from += size {
		node.Pieces = append(node.Pieces, impl.Piece{Group: groups + from/size, Len: min(size, e.Num-from)})
	}
	node.Len += e.Num
	if len(node.Pieces) > 40 {
		return 8
	}
	n.nodes[e.Path] = node
	return 0
}

func (n *namedTree) put(e impl.Edit, groups int) int {
	p := strings.TrimSuffix(e.Path, "/")
	if _, ok := n.nodes[p]; !ok && e.Kind > 2 {
		return 1
	}
	switch e.Kind {
	case 1, 2:
		return n.make(e)
	case 3:
		return n.move(e)
	case 4:
		return n.drop(e)
	case 5, 6:
		return n.set(e, p)
	case 7:
		return n.add(e, groups)
	case 8, 9:
		return n.hold(e)
	}
	return 0
}

// plainApply is Apply and GroupsAfter in the document's own words.
func plainApply(t impl.Tree, e impl.Edit, groups int) (impl.Tree, int, int) {
	if !plainTreeOk(t) || !plainEditOk(e) || groups < 1 || groups > 99000 {
		return t, groups, 7
	}
	n := namedOf(t)
	if code := n.put(e, groups); code != 0 {
		return t, groups, code
	}
	next := n.tree()
	after := groups + countPieces(next) - countPieces(t)
	switch e.Kind {
	case 4:
		after = groups
	case 10:
		after = groups + 20
	}
	return next, after, 0
}

func countPieces(t impl.Tree) int {
	count := 0
	for _, node := range t.Nodes {
		count += len(node.Pieces)
	}
	return count
}

func sameNode(a, b impl.Inode) bool {
	return a.Id == b.Id && a.Parent == b.Parent && a.Name == b.Name && a.Dir == b.Dir && a.Schema == b.Schema &&
		a.Quota == b.Quota && a.Len == b.Len && slices.Equal(a.Pieces, b.Pieces) && a.Writer == b.Writer
}

// sameTree holds every field of two trees against one another; an empty list and nil are the same.
func sameTree(a, b impl.Tree) bool {
	return a.Next == b.Next && slices.EqualFunc(a.Nodes, b.Nodes, sameNode)
}

// wantStep tells what comes of one record, by each of the functions that put it to the tree.
func wantStep(t *testing.T, what string, tree impl.Tree, e impl.Edit, groups int, want impl.Tree, after, code int) {
	t.Helper()
	before := cloneTree(tree)
	got, c := impl.Apply(tree, e, groups)
	if c != code {
		t.Errorf("%s: Apply of %+v with %d groups has the code %d, want %d", what, e, groups, c, code)
	}
	if !sameTree(got, want) {
		t.Errorf("%s: Apply of %+v with %d groups = %+v, want %+v", what, e, groups, got, want)
	}
	if g := impl.GroupsAfter(tree, e, groups); g != after {
		t.Errorf("%s: GroupsAfter of %+v with %d groups = %d, want %d", what, e, groups, g, after)
	}
	if all, g := impl.ApplyAll(tree, []impl.Edit{e}, groups); !sameTree(all, want) || g != after {
		t.Errorf("%s: ApplyAll of %+v alone with %d groups = %+v, %d, want %+v, %d", what, e, groups, all, g, want, after)
	}
	if impl.TreeOk(got) != plainTreeOk(before) {
		t.Errorf("%s: TreeOk is %t behind %+v", what, impl.TreeOk(got), e)
	}
	if !sameTree(tree, before) {
		t.Errorf("%s: the tree that is handed in is another one behind %+v", what, e)
	}
}

// wantCode tells the code of a record; what comes of it is held against the test's own.
func wantCode(t *testing.T, what string, tree impl.Tree, e impl.Edit, groups, code int) {
	t.Helper()
	want, after, own := plainApply(cloneTree(tree), e, groups)
	if own != code {
		t.Errorf("%s: the test's own Apply of %+v with %d groups has the code %d, not %d", what, e, groups, own, code)
	}
	if code != 0 {
		want, after = cloneTree(tree), groups
	}
	wantStep(t, what, tree, e, groups, want, after, code)
}

// wantAsOwn holds all that a record does against the test's own, and tells its code.
func wantAsOwn(t *testing.T, what string, tree impl.Tree, e impl.Edit, groups int) int {
	t.Helper()
	_, _, code := plainApply(cloneTree(tree), e, groups)
	wantCode(t, what, tree, e, groups, code)
	return code
}

func TestCodesOfRecords(t *testing.T) {
	codes := []int{impl.NotFound, impl.Exists, impl.NotDir, impl.NotEmpty, impl.OverQuota, impl.WrongHolder, impl.BadEdit, impl.TooMany}
	if !slices.Equal(codes, []int{1, 2, 3, 4, 5, 6, 7, 8}) {
		t.Errorf("the codes are %d", codes)
	}
}

// A tree that is made of records alone, from TreeNew on; each step is written out.
func TestALifeOfRecords(t *testing.T) {
	piece := func(group, length int) impl.Piece { return impl.Piece{Group: group, Len: length} }
	with := func(node impl.Inode, pieces ...impl.Piece) impl.Inode {
		for _, one := range pieces {
			node.Len += one.Len
		}
		node.Pieces = pieces
		return node
	}
	root, d, e := rootNode(), dirNode(2, 1, "d"), dirNode(5, 1, "e")
	f, g := written(fileNode(3, 2, "f", 1), 3), written(fileNode(4, 2, "g", 3), 1)
	d3, h := ofSchema(d, 3), ofSchema(dirNode(2, 5, "h"), 3)
	f20 := with(f, piece(1, 16), piece(2, 4))
	f21 := with(f, piece(1, 16), piece(2, 4), piece(5, 1))
	g33 := with(g, piece(3, 32), piece(4, 1))
	root54 := limited(root, 54)
	tree, groups := impl.TreeNew(), 1
	var list []impl.Edit
	for i, step := range []struct {
		e      impl.Edit
		nodes  []impl.Inode
		next   int
		groups int
	}{
		{editMake("/d"), []impl.Inode{root, d}, 3, 1},
		{editCreate("/d/f", 3), []impl.Inode{root, d, f}, 4, 1},
		{editSchema("/d", 3), []impl.Inode{root, d3, f}, 4, 1},
		{editCreate("/d/g", 1), []impl.Inode{root, d3, f, g}, 5, 1},
		{editAdd("/d/f", 20), []impl.Inode{root, d3, f20, g}, 5, 3},
		{editAdd("/d/g", 33), []impl.Inode{root, d3, f20, g33}, 5, 5},
		{editAdd("/d/f", 1), []impl.Inode{root, d3, f21, g33}, 5, 6},
		{editBoot(), []impl.Inode{root, d3, f21, g33}, 5, 26},
		{editQuota("/", 54), []impl.Inode{root54, d3, f21, g33}, 5, 26},
		{editClose("/d/f"), []impl.Inode{root54, d3, written(f21, 0), g33}, 5, 26},
		{editOpen("/d/f", 9), []impl.Inode{root54, d3, written(f21, 9), g33}, 5, 26},
		{editMake("/e"), []impl.Inode{root54, d3, written(f21, 9), g33, e}, 6, 26},
		{editMove("/d", "/e/h"), []impl.Inode{root54, h, written(f21, 9), g33, e}, 6, 26},
		{editDrop("/e/h/f"), []impl.Inode{root54, h, g33, e}, 6, 26},
		{editMake("/x"), []impl.Inode{root54, h, g33, e, dirNode(6, 1, "x")}, 7, 26},
		{editDrop("/e"), []impl.Inode{root54, dirNode(6, 1, "x")}, 7, 26},
		{editCreate("/e", 4), []impl.Inode{root54, dirNode(6, 1, "x"), written(fileNode(7, 1, "e", 1), 4)}, 8, 26},
		{editQuota("/", 0), []impl.Inode{root, dirNode(6, 1, "x"), written(fileNode(7, 1, "e", 1), 4)}, 8, 26},
		{editSchema("/", 2), []impl.Inode{ofSchema(root, 2), dirNode(6, 1, "x"), written(fileNode(7, 1, "e", 1), 4)}, 8, 26},
		{editDrop("/e"), []impl.Inode{ofSchema(root, 2), dirNode(6, 1, "x")}, 8, 26},
		{editDrop("/x"), []impl.Inode{ofSchema(root, 2)}, 8, 26},
	} {
		want := impl.Tree{Nodes: step.nodes, Next: step.next}
		wantStep(t, "a life", tree, step.e, groups, want, step.groups, 0)
		if own, after, code := plainApply(tree, step.e, groups); !sameTree(own, want) || after != step.groups || code != 0 {
			t.Errorf("the test's own step %d is %+v, %d, %d", i, own, after, code)
		}
		tree, groups = want, step.groups
		list = append(list, step.e)
		if all, g := impl.ApplyAll(impl.TreeNew(), list, 1); !sameTree(all, want) || g != groups {
			t.Errorf("ApplyAll of %d records = %+v, %d, want %+v, %d", i+1, all, g, want, groups)
		}
	}
}

// shed has files and directories of which each kind of record has some to be put to: 3 and 6 have a
// Writer, 4 and 7 have none.
func shed() impl.Tree {
	return treeOf(
		rootNode(),
		dirNode(2, 1, "d"),
		written(fileNode(3, 2, "f", 2, 24, 5), 4),
		fileNode(4, 2, "g", 1, 16),
		dirNode(5, 2, "e"),
		written(fileNode(6, 5, "h", 3, 32), 9),
		fileNode(7, 1, "r", 1),
		dirNode(9, 1, "o"),
	)
}

func TestNodesThatAreMade(t *testing.T) {
	for s := 1; s <= 3; s++ {
		for own := range 4 {
			tree := changed(shed(), 0, func(node *impl.Inode) { node.Schema = s })
			tree.Nodes[1].Schema = own
			inherited := own
			if own == 0 {
				inherited = s
			}
			for p, parent := range map[string]int{"/x": 1, "/d/x": 2, "/d/e/x": 5, "/o/x": 9} {
				want := cloneTree(tree)
				want.Next = 11
				want.Nodes = append(want.Nodes, dirNode(10, parent, "x"))
				wantStep(t, "EdMake", tree, editMake(p), 7, want, 7, 0)
				for who := 1; who <= 9; who++ {
					file := written(fileNode(10, parent, "x", s), who)
					if parent == 2 || parent == 5 {
						file.Schema = inherited
					}
					want.Nodes[8] = file
					wantStep(t, "EdCreate", tree, editCreate(p, who), 7, want, 7, 0)
				}
			}
		}
	}
}

// Where a node may not be made, one is told why; what is told of both kinds is the same.
func TestNodesThatAreNotMade(t *testing.T) {
	for p, code := range map[string]int{
		"/d":         impl.Exists,
		"/r":         impl.Exists,
		"/d/f":       impl.Exists,
		"/d/e":       impl.Exists,
		"/d/e/h":     impl.Exists,
		"/r/x":       impl.NotDir,
		"/d/f/x":     impl.NotDir,
		"/d/f/f":     impl.NotDir,
		"/d/e/h/x":   impl.NotDir,
		"/x/y":       impl.NotFound,
		"/d/x/y":     impl.NotFound,
		"/r/x/y":     impl.NotFound,
		"/d/f/x/y":   impl.NotFound,
		"/x/y/z/w":   impl.NotFound,
		"/e/x":       impl.NotFound,
		"/d/d/e":     impl.NotFound,
		"/":          impl.BadEdit,
		"":           impl.BadEdit,
		"/d/":        impl.BadEdit,
		"d":          impl.BadEdit,
		"/d/e/x/y/z": impl.BadEdit,
		"/X":         impl.BadEdit,
		"/abcdefghi": impl.BadEdit,
	} {
		wantCode(t, "EdMake", shed(), editMake(p), 1, code)
		wantCode(t, "EdCreate", shed(), editCreate(p, 5), 1, code)
	}
	wantCode(t, "EdMake with a Who", shed(), impl.Edit{Kind: impl.EdMake, Path: "/x", Who: 1}, 1, impl.BadEdit)
	wantCode(t, "EdCreate without one", shed(), impl.Edit{Kind: impl.EdCreate, Path: "/x"}, 1, impl.BadEdit)
}

func TestNodesAtMaxDepth(t *testing.T) {
	tree, code := impl.TreeNew(), 0
	for _, p := range []string{"/a", "/a/b", "/a/b/c"} {
		wantCode(t, "a row", tree, editMake(p), 1, 0)
		tree, code = impl.Apply(tree, editMake(p), 1)
		if code != 0 {
			t.Fatalf("EdMake of %q has the code %d", p, code)
		}
	}
	for _, e := range []impl.Edit{editMake("/a/b/c/d"), editCreate("/a/b/c/d", 1)} {
		wantCode(t, "the fourth", tree, e, 1, 0)
		deep, _ := impl.Apply(tree, e, 1)
		wantFound(t, "the fourth", deep, "/a/b/c/d", 5)
		e.Path += "/e"
		wantCode(t, "the fifth", deep, e, 1, impl.BadEdit)
	}
}

func TestNodesUpToMaxNodes(t *testing.T) {
	for count := 1; count <= 14; count++ {
		code := 0
		if count == 14 {
			code = impl.TooMany
		}
		for _, e := range []impl.Edit{editMake("/x"), editCreate("/x", 1)} {
			wantCode(t, "one more", manyNodes(count), e, 1, code)
		}
	}
	full := manyNodes(14)
	taken := "/" + full.Nodes[5].Name
	for _, kind := range []impl.Edit{editMake(""), editCreate("", 1)} {
		for p, code := range map[string]int{"/x": impl.TooMany, taken: impl.Exists, taken + "/x": impl.NotDir, "/x/y": impl.NotFound} {
			kind.Path = p
			wantCode(t, "a full tree", full, kind, 1, code)
		}
	}
	// The other kinds need no new node.
	wantCode(t, "a full tree", full, editMove(taken, "/x"), 1, 0)
	wantCode(t, "a full tree", full, editOpen(taken, 1), 1, 0)
	wantCode(t, "a full tree", full, editBoot(), 1, 0)
	wantCode(t, "a full tree", full, editSchema("/", 2), 1, 0)
	less, code := impl.Apply(full, editDrop(taken), 1)
	if code != 0 || len(less.Nodes) != 13 || less.Next != full.Next {
		t.Fatalf("EdDrop = %+v, %d", less, code)
	}
	wantCode(t, "a full tree, one less", less, editMake(taken), 1, 0)
}

func TestNodesUpToTheLastNext(t *testing.T) {
	for next, code := range map[int]int{10: 0, 11: 0, 99998: 0, 99999: 0, 100000: impl.TooMany, 100001: impl.BadEdit, 9: impl.BadEdit, 0: impl.BadEdit, -1: impl.BadEdit, math.MaxInt: impl.BadEdit, math.MinInt: impl.BadEdit} {
		tree := shed()
		tree.Next = next
		wantCode(t, "Next", tree, editMake("/x"), 1, code)
		wantCode(t, "Next", tree, editCreate("/x", 1), 1, code)
		if code == 0 {
			got, _ := impl.Apply(tree, editMake("/o/x"), 1)
			if last := got.Nodes[len(got.Nodes)-1]; last.Id != next || got.Next != next+1 {
				t.Errorf("the node %d is made, Next is %d then", last.Id, got.Next)
			}
		}
	}
	tree := shed()
	tree.Next = 100000
	for p, code := range map[string]int{"/d": impl.Exists, "/r/x": impl.NotDir, "/x/y": impl.NotFound} {
		wantCode(t, "the last Next", tree, editMake(p), 1, code)
	}
	for _, e := range []impl.Edit{editMove("/d", "/x"), editDrop("/d"), editQuota("/d", 500), editAdd("/d/f", 200), editClose("/d/f"), editOpen("/r", 2), editBoot()} {
		wantCode(t, "the last Next", tree, e, 1, 0)
	}
	// What is dropped does not give its Id back.
	tree.Next = 99999
	got, groups := impl.ApplyAll(tree, []impl.Edit{editMake("/x"), editDrop("/x"), editMake("/x")}, 1)
	want := shed()
	want.Next = 100000
	if !sameTree(got, want) || groups != 1 {
		t.Errorf("of the last Id made and dropped comes %+v, %d", got, groups)
	}
}

func TestGroupsAtTheirEnds(t *testing.T) {
	records := []impl.Edit{
		editMake("/x"), editCreate("/x", 1), editMove("/d", "/x"), editDrop("/d"), editSchema("/d", 3),
		editQuota("/d", 100), editAdd("/d/f", 49), editClose("/d/f"), editOpen("/d/g", 2), editBoot(),
	}
	ends := map[int]int{1: 0, 2: 0, 98999: 0, 99000: 0}
	for _, far := range []int{0, -1, -99000, 99001, 99002, 100000, 100001, 1 << 32, 1<<32 + 1, -1 << 32, math.MaxInt, math.MaxInt - 19, math.MinInt, math.MinInt + 1} {
		ends[far] = impl.BadEdit
	}
	more := map[int]int{impl.EdAdd: 3, impl.EdBoot: 20}
	for groups, code := range ends {
		for i, e := range records {
			if e.Kind != i+1 {
				t.Fatalf("record %d is of the kind %d", i, e.Kind)
			}
			wantCode(t, "groups", shed(), e, groups, code)
			want := groups
			if code == 0 {
				want += more[e.Kind]
			}
			if got := impl.GroupsAfter(shed(), e, groups); got != want {
				t.Errorf("GroupsAfter of %+v with %d groups = %d, want %d", e, groups, got, want)
			}
		}
	}
	// The code of groups is ahead of all others.
	wantCode(t, "no groups", shed(), editMake("/x/y"), 0, impl.BadEdit)
	wantCode(t, "too many groups", shed(), editAdd("/d", 1), 99001, impl.BadEdit)
	got, _ := impl.Apply(shed(), editAdd("/d/f", 200), 99000)
	pieces := got.Nodes[2].Pieces
	if last := pieces[len(pieces)-1]; last != (impl.Piece{Group: 99008, Len: 8}) || len(pieces) != 11 {
		t.Errorf("the greatest groups are %+v", pieces)
	}
}

// Each node goes to each place near each other one.
func TestMovesToEveryPlace(t *testing.T) {
	for what, tree := range map[string]impl.Tree{"shed": shed(), "hall": hall(), "a row": rowOf(4, false), "a row turned": rowOf(4, true), "nothing": impl.TreeNew()} {
		var paths []string
		for p := range namedOf(tree).nodes {
			paths = append(paths, p, p+"/x", p+"/a", p+"/x/y")
		}
		paths = append(paths, "/", "/d/", "//", "x")
		for _, p := range paths {
			for _, to := range paths {
				wantAsOwn(t, what, tree, editMove(p, to), 1)
			}
		}
	}
}

func TestMovesThatAreWrittenOut(t *testing.T) {
	tree := shed()
	move := func(p, to string, at, parent int, name string) {
		t.Helper()
		want := changed(tree, at, func(node *impl.Inode) { node.Parent, node.Name = parent, name })
		wantStep(t, "EdMove", tree, editMove(p, to), 3, want, 3, 0)
	}
	move("/d/f", "/x", 2, 1, "x")
	move("/d/f", "/d/x", 2, 2, "x")
	move("/d/f", "/o/f", 2, 9, "f")
	move("/d/e", "/o/d", 4, 9, "d")
	move("/d", "/o/d", 1, 9, "d")
	move("/d", "/dd", 1, 1, "dd")
	move("/d/e/h", "/h", 5, 1, "h")
	move("/o", "/d/e/o", 7, 5, "o")
	moved, _ := impl.Apply(tree, editMove("/d", "/o/x"), 3)
	for p, id := range map[string]int{"/o/x": 2, "/o/x/f": 3, "/o/x/g": 4, "/o/x/e": 5, "/o/x/e/h": 6, "/d": 0, "/d/f": 0, "/r": 7, "/o": 9} {
		wantFound(t, "EdMove", moved, p, id)
	}
	for p, to := range map[string]string{"/o/x": "/d", "/o/x/e": "/e"} {
		wantCode(t, "a second move", moved, editMove(p, to), 3, 0)
	}
	back, code := impl.Apply(moved, editMove("/o/x", "/d"), 3)
	if code != 0 || !sameTree(back, tree) {
		t.Errorf("there and back is %+v, %d", back, code)
	}
}

func TestMovesThatAreRefused(t *testing.T) {
	for _, one := range []struct {
		p, to string
		code  int
	}{
		{"/x", "/y", impl.NotFound},
		{"/x", "/d", impl.NotFound},
		{"/x", "/x", impl.NotFound},
		{"/x", "/x/y", impl.NotFound},
		{"/x", "/r/y", impl.NotFound},
		{"/r/x", "/y", impl.NotFound},
		{"/d", "/x/y", impl.NotFound},
		{"/d", "/d/x/y", impl.NotFound},
		{"/d", "/r/x/y", impl.NotFound},
		{"/d", "/d/f/x/y", impl.NotFound},
		{"/r", "/r/x/y", impl.NotFound},
		{"/d", "/r/x", impl.NotDir},
		{"/d", "/d/f/x", impl.NotDir},
		{"/d", "/d/e/h/x", impl.NotDir},
		{"/r", "/r/x", impl.NotDir},
		{"/r", "/r/r", impl.NotDir},
		{"/d", "/d", impl.Exists},
		{"/r", "/r", impl.Exists},
		{"/d/e", "/d/e", impl.Exists},
		{"/d", "/r", impl.Exists},
		{"/r", "/d", impl.Exists},
		{"/d", "/o", impl.Exists},
		{"/d", "/d/f", impl.Exists},
		{"/d", "/d/e", impl.Exists},
		{"/d", "/d/e/h", impl.Exists},
		{"/d/e", "/d", impl.Exists},
		{"/d", "/d/x", impl.BadEdit},
		{"/d", "/d/d", impl.BadEdit},
		{"/d", "/d/e/x", impl.BadEdit},
		{"/d", "/d/e/h", impl.Exists},
		{"/d/e", "/d/e/x", impl.BadEdit},
		{"/o", "/o/x", impl.BadEdit},
		{"/", "/x", impl.BadEdit},
		{"/d", "/", impl.BadEdit},
		{"/d", "", impl.BadEdit},
		{"/d", "/x/", impl.BadEdit},
		{"/d", "/d/e/x/y/z", impl.BadEdit},
		{"/d", "/x/y/z/w/v", impl.BadEdit},
	} {
		wantCode(t, "a move that is refused", shed(), editMove(one.p, one.to), 1, one.code)
	}
	// A name that begins like another one is not below it.
	tree := treeOf(rootNode(), dirNode(2, 1, "a"), dirNode(3, 1, "aa"), fileNode(4, 3, "a", 1, 5))
	wantCode(t, "a longer name", tree, editMove("/a", "/aa/b"), 1, 0)
	wantCode(t, "a longer name", tree, editMove("/a", "/ab"), 1, 0)
	wantCode(t, "a longer name", tree, editMove("/aa", "/a/a"), 1, 0)
	wantCode(t, "a longer name", tree, editMove("/aa", "/aa/b"), 1, impl.BadEdit)
}

// What is moved may be too deep by what is below it: a directory with a row of n below it.
func TestMovesThatComeTooDeep(t *testing.T) {
	for below := range 4 {
		for depth := range 4 {
			nodes := []impl.Inode{rootNode(), dirNode(2, 1, "m")}
			for i := range below {
				nodes = append(nodes, dirNode(3+i, 2+i, "n"))
			}
			to := ""
			for i := range depth {
				id := 20 + i
				parent := id - 1
				if i == 0 {
					parent = 1
				}
				nodes = append(nodes, dirNode(id, parent, "p"))
				to += "/p"
			}
			tree := treeOf(nodes...)
			wantTreeOk(t, "two rows", tree, true)
			code := 0
			if depth+1+below > 4 {
				code = impl.TooMany
			}
			wantCode(t, "two rows", tree, editMove("/m", to+"/x"), 1, code)
		}
	}
	// The deepest one below it may be a file, and need not be the first.
	tree := treeOf(rootNode(), dirNode(2, 1, "m"), fileNode(3, 2, "a", 1), dirNode(4, 2, "b"), fileNode(5, 4, "c", 1, 3), fileNode(6, 2, "d", 1), dirNode(7, 1, "p"), dirNode(8, 7, "p"))
	wantCode(t, "a file below", tree, editMove("/m", "/p/x"), 1, 0)
	wantCode(t, "a file below", tree, editMove("/m", "/p/p/x"), 1, impl.TooMany)
	wantCode(t, "a file below, to what is there", tree, editMove("/m", "/p/p"), 1, impl.Exists)
	wantCode(t, "a file", tree, editMove("/m/a", "/p/p/x"), 1, 0)
}

// A move asks for no Quota, and a file keeps its Schema.
func TestMovesPastAQuota(t *testing.T) {
	tree := changed(shed(), 7, func(node *impl.Inode) { node.Quota, node.Schema = 1, 3 })
	want := changed(tree, 3, func(node *impl.Inode) { node.Parent = 9 })
	wantStep(t, "a move", tree, editMove("/d/g", "/o/g"), 1, want, 1, 0)
	if used := impl.UsedBelow(want, 9); used != 16 {
		t.Errorf("%d bytes are used", used)
	}
	wantCode(t, "more is used than the Quota", want, editSchema("/o", 1), 1, 0)
	wantCode(t, "more is used than the Quota", want, editQuota("/o", 1), 1, impl.OverQuota)
	wantCode(t, "more is used than the Quota", want, editQuota("/o", 0), 1, 0)
	wantCode(t, "more is used than the Quota", want, editOpen("/o/g", 1), 1, 0)
	wantCode(t, "more is used than the Quota", want, editMove("/o/g", "/o/h"), 1, 0)
}

func TestDrops(t *testing.T) {
	for p, gone := range map[string][]int{"/d": {2, 3, 4, 5, 6}, "/d/e": {5, 6}, "/d/f": {3}, "/d/g": {4}, "/d/e/h": {6}, "/r": {7}, "/o": {9}} {
		want := shed()
		want.Nodes = slices.DeleteFunc(want.Nodes, func(node impl.Inode) bool { return slices.Contains(gone, node.Id) })
		wantStep(t, "EdDrop", shed(), editDrop(p), 5, want, 5, 0)
	}
	for p, gone := range map[string][]int{"/a": {2, 3, 4, 5, 7, 8, 12}, "/a/a": {3, 5, 7, 8, 12}, "/a/a/b": {5, 7, 12}, "/a/b": {4}, "/b": {9}} {
		want := hall()
		want.Nodes = slices.DeleteFunc(want.Nodes, func(node impl.Inode) bool { return slices.Contains(gone, node.Id) })
		wantStep(t, "EdDrop", hall(), editDrop(p), 5, want, 5, 0)
	}
	for p, code := range map[string]int{"/x": impl.NotFound, "/d/x": impl.NotFound, "/r/x": impl.NotFound, "/d/f/g": impl.NotFound, "/": impl.BadEdit, "": impl.BadEdit, "/d/": impl.BadEdit} {
		wantCode(t, "EdDrop", shed(), editDrop(p), 5, code)
	}
}

func TestSchemasThatAreSet(t *testing.T) {
	for p, at := range map[string]int{"/": 0, "/d": 1, "/d/e": 4, "/o": 7} {
		for s := 1; s <= 3; s++ {
			want := changed(shed(), at, func(node *impl.Inode) { node.Schema = s })
			wantStep(t, "EdSchema", shed(), editSchema(p, s), 5, want, 5, 0)
		}
		for _, s := range []int{0, 4, -1, math.MaxInt, math.MinInt, 1<<32 + 1} {
			wantCode(t, "EdSchema", shed(), editSchema(p, s), 5, impl.BadEdit)
		}
	}
	for p, code := range map[string]int{"/d/f": impl.NotDir, "/d/g": impl.NotDir, "/r": impl.NotDir, "/x": impl.NotFound, "/r/x": impl.NotFound} {
		wantCode(t, "EdSchema", shed(), editSchema(p, 2), 5, code)
	}
}

func TestQuotasThatAreSet(t *testing.T) {
	// Used: /d 77, /d/e 32, /o none.
	for p, one := range map[string]struct{ at, used int }{"/": {0, 77}, "/d": {1, 77}, "/d/e": {4, 32}, "/o": {7, 0}} {
		for _, before := range []int{0, 1, 77, 1000} {
			tree := changed(shed(), one.at, func(node *impl.Inode) { node.Quota = before })
			for quota := range 1001 {
				if quota > 80 && quota < 995 {
					continue
				}
				want, code := changed(tree, one.at, func(node *impl.Inode) { node.Quota = quota }), 0
				if quota > 0 && quota < one.used {
					want, code = tree, impl.OverQuota
				}
				wantStep(t, "EdQuota", tree, editQuota(p, quota), 5, want, 5, code)
			}
		}
		for _, quota := range []int{-1, 1001, math.MaxInt, math.MinInt, 1 << 32} {
			wantCode(t, "EdQuota", shed(), editQuota(p, quota), 5, impl.BadEdit)
		}
	}
	for p, code := range map[string]int{"/d/f": impl.NotDir, "/d/g": impl.NotDir, "/r": impl.NotDir, "/x": impl.NotFound, "/r/x": impl.NotFound} {
		for _, quota := range []int{0, 1, 1000} {
			wantCode(t, "EdQuota", shed(), editQuota(p, quota), 5, code)
		}
	}
	// What those above or below have asks nothing of it.
	tree := changed(shed(), 0, func(node *impl.Inode) { node.Quota = 77 })
	tree.Nodes[4].Quota = 32
	wantCode(t, "EdQuota above that of the root", tree, editQuota("/d", 1000), 5, 0)
	wantCode(t, "EdQuota below that of the root", tree, editQuota("/d", 76), 5, impl.OverQuota)
}

func TestBytesThatAreAdded(t *testing.T) {
	size := map[int]int{1: 16, 2: 24, 3: 32}
	for s := 1; s <= 3; s++ {
		tree := treeOf(limited(rootNode(), 1000), dirNode(2, 1, "d"), written(fileNode(3, 2, "f", s, 3, size[s]), 1))
		for num := 1; num <= 200; num++ {
			want := cloneTree(tree)
			node := &want.Nodes[2]
			count := 0
			for left := num; left > 0; left -= size[s] {
				node.Pieces = append(node.Pieces, impl.Piece{Group: 500 + count, Len: min(left, size[s])})
				count++
			}
			node.Len = 3 + size[s] + num
			wantStep(t, "EdAdd", tree, editAdd("/d/f", num), 500, want, 500+count, 0)
			if count != len(impl.Spans(s, num)) {
				t.Errorf("%d bytes take %d Pieces", num, count)
			}
		}
		for _, num := range []int{0, -1, 201, math.MaxInt, math.MinInt, 1 << 32, 1<<32 + 1} {
			wantCode(t, "EdAdd", tree, editAdd("/d/f", num), 500, impl.BadEdit)
		}
	}
	// The Schema of a file is its own, whatever the directories above it have.
	tree := changed(shed(), 1, func(node *impl.Inode) { node.Schema = 1 })
	got, _ := impl.Apply(tree, editAdd("/d/f", 25), 70)
	if want := []impl.Piece{{Group: 1, Len: 24}, {Group: 2, Len: 5}, {Group: 70, Len: 24}, {Group: 71, Len: 1}}; !slices.Equal(got.Nodes[2].Pieces, want) {
		t.Errorf("the Pieces are %+v", got.Nodes[2].Pieces)
	}
}

func TestBytesThatAreNotAdded(t *testing.T) {
	for p, code := range map[string]int{
		"/d/f": 0, "/d/e/h": 0, "/d": impl.NotDir, "/d/e": impl.NotDir, "/o": impl.NotDir,
		"/d/g": impl.WrongHolder, "/r": impl.WrongHolder, "/x": impl.NotFound, "/d/f/x": impl.NotFound, "/": impl.BadEdit,
	} {
		for _, num := range []int{1, 17, 200} {
			wantCode(t, "EdAdd", shed(), editAdd(p, num), 5, code)
		}
	}
}

// Each directory above the file, alone and with others, has a Quota that is just met, and one less.
func TestBytesThatFillAQuota(t *testing.T) {
	above := map[string][]int{"/d/f": {0, 1}, "/d/e/h": {0, 1, 4}}
	used := map[int]int{0: 77, 1: 77, 4: 32, 7: 0}
	for p, dirs := range above {
		for at := range used {
			for _, num := range []int{1, 2, 23, 24, 25, 100, 199, 200} {
				for _, less := range []int{0, 1} {
					tree := changed(shed(), at, func(node *impl.Inode) { node.Quota = used[at] + num - less })
					code := 0
					if less == 1 && slices.Contains(dirs, at) && tree.Nodes[at].Quota > 0 {
						code = impl.OverQuota
					}
					wantCode(t, "a Quota", tree, editAdd(p, num), 5, code)
				}
			}
		}
	}
	all := changed(shed(), 0, func(node *impl.Inode) { node.Quota = 87 })
	all.Nodes[1].Quota, all.Nodes[4].Quota = 97, 37
	for num, code := range map[int]int{1: 0, 5: 0, 6: impl.OverQuota, 10: impl.OverQuota, 11: impl.OverQuota} {
		wantCode(t, "three Quotas", all, editAdd("/d/e/h", num), 5, code)
	}
	for num, code := range map[int]int{1: 0, 10: 0, 11: impl.OverQuota} {
		wantCode(t, "two Quotas", all, editAdd("/d/f", num), 5, code)
	}
	full, code := impl.Apply(all, editAdd("/d/f", 10), 5)
	if code != 0 {
		t.Fatalf("the code is %d", code)
	}
	wantCode(t, "a full Quota", full, editAdd("/d/f", 1), 5, impl.OverQuota)
	wantCode(t, "a full Quota", full, editAdd("/d/e/h", 1), 5, impl.OverQuota)
	wantCode(t, "a full Quota", full, editCreate("/d/x", 1), 5, 0)
	wantCode(t, "a full Quota", full, editAdd("/d/g", 1), 5, impl.WrongHolder)
	wantCode(t, "a full Quota", full, editAdd("/d", 1), 5, impl.NotDir)
}

// lengthsOf has count numbers, as much alike as they may be, of this sum.
func lengthsOf(count, sum int) []int {
	var list []int
	for left := count; left > 0; left-- {
		list = append(list, sum/left)
		sum -= sum / left
	}
	return list
}

func TestBytesUpToTheGreatestLen(t *testing.T) {
	for _, num := range []int{1, 16, 31, 32, 33, 100, 199, 200} {
		for length, code := range map[int]int{1000 - num - 1: 0, 1000 - num: 0, 1001 - num: impl.OverQuota, 1000: impl.OverQuota} {
			// Of this Schema 32 Pieces are enough, and those that come are within 40.
			tree := treeOf(rootNode(), written(fileNode(2, 1, "f", 3, lengthsOf(32, length)...), 1))
			wantTreeOk(t, "a long file", tree, true)
			wantCode(t, "a long file", tree, editAdd("/f", num), 5, code)
		}
	}
	// A long file, of which the Pieces are too many as well.
	tree := treeOf(rootNode(), written(fileNode(2, 1, "f", 3, lengthsOf(40, 999)...), 1))
	wantCode(t, "Len and Pieces", tree, editAdd("/f", 2), 5, impl.OverQuota)
	wantCode(t, "Pieces", tree, editAdd("/f", 1), 5, impl.TooMany)
	tree.Nodes[1].Writer = 0
	wantCode(t, "no Writer", tree, editAdd("/f", 2), 5, impl.WrongHolder)
}

func TestBytesUpToTheLastPiece(t *testing.T) {
	size := map[int]int{1: 16, 2: 24, 3: 32}
	for s := 1; s <= 3; s++ {
		for count := 30; count <= 40; count++ {
			tree := treeOf(rootNode(), written(fileNode(2, 1, "f", s, lengthsOf(count, count)...), 1))
			left := 40 - count
			for pieces := 1; pieces*size[s] <= 200; pieces++ {
				code := 0
				if pieces > left {
					code = impl.TooMany
				}
				wantCode(t, "just as many", tree, editAdd("/f", pieces*size[s]), 5, code)
				wantCode(t, "the last one of a byte", tree, editAdd("/f", (pieces-1)*size[s]+1), 5, code)
			}
		}
	}
	full := treeOf(limited(rootNode(), 40), written(fileNode(2, 1, "f", 1, lengthsOf(40, 40)...), 1))
	wantCode(t, "a full Quota and 40 Pieces", full, editAdd("/f", 1), 5, impl.OverQuota)
	full.Nodes[0].Quota = 41
	wantCode(t, "40 Pieces", full, editAdd("/f", 1), 5, impl.TooMany)
}

func TestFilesThatAreOpenedAndClosed(t *testing.T) {
	for at, p := range map[int]string{2: "/d/f", 3: "/d/g", 5: "/d/e/h", 6: "/r"} {
		for writer := range 10 {
			tree := changed(shed(), at, func(node *impl.Inode) { node.Writer = writer })
			shut := changed(tree, at, func(node *impl.Inode) { node.Writer = 0 })
			closes, opens := 0, impl.WrongHolder
			if writer == 0 {
				closes, opens = impl.WrongHolder, 0
			}
			wantStep(t, "EdClose", tree, editClose(p), 5, shut, 5, closes)
			for who := 1; who <= 9; who++ {
				want := tree
				if writer == 0 {
					want = changed(tree, at, func(node *impl.Inode) { node.Writer = who })
				}
				wantStep(t, "EdOpen", tree, editOpen(p, who), 5, want, 5, opens)
			}
			for _, who := range []int{0, -1, 10, math.MaxInt, math.MinInt, 1<<32 + 1} {
				wantCode(t, "EdOpen", tree, editOpen(p, who), 5, impl.BadEdit)
			}
		}
	}
	for p, code := range map[string]int{"/d": impl.NotDir, "/d/e": impl.NotDir, "/o": impl.NotDir, "/x": impl.NotFound, "/d/f/x": impl.NotFound, "/": impl.BadEdit} {
		wantCode(t, "EdClose", shed(), editClose(p), 5, code)
		wantCode(t, "EdOpen", shed(), editOpen(p, 3), 5, code)
	}
}

func TestBoots(t *testing.T) {
	for what, tree := range map[string]impl.Tree{"shed": shed(), "hall": hall(), "new": impl.TreeNew(), "full": manyNodes(14)} {
		for _, groups := range []int{1, 4, 98980, 98981, 99000} {
			wantStep(t, what, tree, editBoot(), groups, cloneTree(tree), groups+20, 0)
		}
		for _, e := range []impl.Edit{{Kind: impl.EdBoot}, {Kind: impl.EdBoot, Path: "/d"}, {Kind: impl.EdBoot, Path: "/", Num: 1}, {Kind: impl.EdBoot, Path: "/", Who: 1}, {Kind: impl.EdBoot, Path: "/", To: "/"}} {
			wantCode(t, what, tree, e, 1, impl.BadEdit)
		}
	}
}

// treesThatAreNotRight has trees with what TreeOk asks for broken one by one.
func treesThatAreNotRight() map[string]impl.Tree {
	trees := map[string]impl.Tree{
		"nothing":          {},
		"no nodes, Next 5": {Nodes: []impl.Inode{}, Next: 5},
		"no root":          {Nodes: shed().Nodes[1:], Next: 10},
		"15 nodes":         manyNodes(15),
		"1000 nodes":       manyNodes(1000),
		"nodes go round":   treeOf(rootNode(), dirNode(2, 3, "d"), dirNode(3, 2, "e")),
		"its own Parent":   treeOf(rootNode(), dirNode(2, 2, "d")),
		"too deep":         rowOf(5, false),
		"one name twice":   treeOf(rootNode(), dirNode(2, 1, "d"), dirNode(3, 1, "d")),
		"below a file":     treeOf(rootNode(), fileNode(2, 1, "d", 1), fileNode(3, 2, "f", 1)),
		"not ascending":    {Nodes: []impl.Inode{rootNode(), dirNode(3, 1, "d"), dirNode(2, 1, "e")}, Next: 4},
		"an Id twice":      {Nodes: []impl.Inode{rootNode(), dirNode(2, 1, "d"), dirNode(2, 1, "e")}, Next: 4},
		"an Id at Next":    {Nodes: []impl.Inode{rootNode(), dirNode(4, 1, "d")}, Next: 4},
		"Next is far":      {Nodes: []impl.Inode{rootNode(), dirNode(2, 1, "d")}, Next: math.MaxInt},
	}
	for what, change := range map[string]func(node *impl.Inode){
		"a Name":             func(node *impl.Inode) { node.Name = "G" },
		"a Name of a path":   func(node *impl.Inode) { node.Name = "/d" },
		"Schema 0":           func(node *impl.Inode) { node.Schema = 0 },
		"Schema 4":           func(node *impl.Inode) { node.Schema = 4 },
		"a Quota":            func(node *impl.Inode) { node.Quota = 1 },
		"another Len":        func(node *impl.Inode) { node.Len++ },
		"the greatest Len":   func(node *impl.Inode) { node.Len = math.MaxInt },
		"the least Len":      func(node *impl.Inode) { node.Len = math.MinInt },
		"Writer 10":          func(node *impl.Inode) { node.Writer = 10 },
		"Writer -1":          func(node *impl.Inode) { node.Writer = -1 },
		"the group 0":        func(node *impl.Inode) { node.Pieces[0].Group = 0 },
		"the group 100001":   func(node *impl.Inode) { node.Pieces[0].Group = 100001 },
		"41 Pieces":          func(node *impl.Inode) { *node = withPieces(*node, lengthsOf(41, 41)...) },
		"a long Piece":       func(node *impl.Inode) { *node = withPieces(*node, 17) },
		"a directory of Len": func(node *impl.Inode) { node.Dir = true },
		"the Parent 8":       func(node *impl.Inode) { node.Parent = 8 },
		"the least Parent":   func(node *impl.Inode) { node.Parent = math.MinInt },
		"the Id 100000":      func(node *impl.Inode) { node.Id = 100000 },
		"the least Id":       func(node *impl.Inode) { node.Id = math.MinInt },
	} {
		trees["a file with "+what] = changed(shed(), 3, change)
	}
	return trees
}

func TestTreesThatAreNotRightStayAsTheyAre(t *testing.T) {
	records := append(someEdits(), editMake("/x"), editDrop("/d"), editMove("/d", "/x"), editSchema("/d", 2), editQuota("/d", 999), editAdd("/d/f", 5), editClose("/d/f"), editOpen("/r", 1), impl.Edit{}, editMake("/x/y"))
	for what, tree := range treesThatAreNotRight() {
		wantTreeOk(t, what, tree, false)
		for i, e := range records {
			if i >= 20 && len(tree.Nodes) > 100 {
				break
			}
			wantCode(t, what, tree, e, 1+i, impl.BadEdit)
		}
		all, groups := impl.ApplyAll(tree, records, 7)
		if !sameTree(all, tree) || groups != 7 {
			t.Errorf("%s: ApplyAll = %+v, %d", what, all, groups)
		}
		for _, id := range append(idsAbout(tree), 0) {
			if got := impl.GroupsOf(tree, id); len(got) != 0 {
				t.Errorf("%s: GroupsOf %d = %d", what, id, got)
			}
		}
	}
}

func TestRecordsThatAreNotRightChangeNothing(t *testing.T) {
	tree := shed()
	var wrong []impl.Edit
	for _, right := range []impl.Edit{editMake("/x"), editCreate("/x", 1), editMove("/d", "/x"), editDrop("/d"), editSchema("/d", 2), editQuota("/d", 999), editAdd("/d/f", 5), editClose("/d/f"), editOpen("/r", 1), editBoot()} {
		wantCode(t, "a right one", tree, right, 1, 0)
		for _, far := range append(outOfRange(1001), 4, 10, 11, 201) {
			for field := range 3 {
				e := right
				*[]*int{&e.Kind, &e.Num, &e.Who}[field] = far
				if !plainEditOk(e) {
					wrong = append(wrong, e)
				}
			}
		}
		for _, text := range textsThatAreNoPaths() {
			e := right
			e.Path = text
			wrong = append(wrong, e)
			e = right
			e.To = text
			if text != right.To {
				wrong = append(wrong, e)
			}
		}
	}
	for _, e := range wrong {
		if plainEditOk(e) {
			t.Fatalf("%+v is right", e)
		}
		before := cloneTree(tree)
		got, code := impl.Apply(tree, e, 5)
		if code != impl.BadEdit || !sameTree(got, before) || !sameTree(tree, before) || impl.GroupsAfter(tree, e, 5) != 5 {
			t.Errorf("Apply of %.80q, %+v has the code %d", e.Path, e.Kind, code)
		}
	}
	if all, groups := impl.ApplyAll(tree, wrong, 5); !sameTree(all, tree) || groups != 5 {
		t.Errorf("ApplyAll of %d wrong records = %+v, %d", len(wrong), all, groups)
	}
}

// editNear draws a record about what the tree has: a path that is there, one below it, or another.
func (d *draw) editNear(tree impl.Tree) impl.Edit {
	var paths []string
	for _, node := range tree.Nodes {
		paths = append(paths, strings.TrimSuffix(plainTold(tree, node.Id).Path, "/"))
	}
	near := func() string {
		p := paths[d.below(len(paths))]
		switch d.below(8) {
		case 0, 1, 2:
			return p + "/" + []string{"a", "b", "0", "c"}[d.below(4)]
		case 3:
			return joinByBytes(d.pathNames(1 + d.below(4))...)
		}
		return max(p, "/")
	}
	e := d.edit()
	if e.Kind != impl.EdBoot || d.below(20) == 0 {
		e.Path = near()
	}
	if e.Kind == impl.EdMove {
		e.To = near()
		// One with much below it comes too deep more often.
		if names, _ := splitByBytes(e.Path); len(names) > 1 && d.below(2) == 0 {
			e.Path = "/" + names[0]
		}
	}
	if e.Kind == impl.EdAdd && d.below(2) == 0 {
		e.Num = 1 + d.below(3)
	}
	if e.Kind == impl.EdQuota && d.below(2) == 0 {
		e.Num = min(1000, max(0, plainTold(tree, plainFind(tree, e.Path)).Used+d.below(3)-1))
	}
	return e
}

// codesOfKinds has the codes that a record of each kind may have; NotEmpty is of none.
func codesOfKinds() map[int][]int {
	return map[int][]int{
		impl.EdMake: {0, 1, 2, 3, 7, 8}, impl.EdCreate: {0, 1, 2, 3, 7, 8}, impl.EdMove: {0, 1, 2, 3, 7, 8},
		impl.EdDrop: {0, 1, 7}, impl.EdSchema: {0, 1, 3, 7}, impl.EdQuota: {0, 1, 3, 5, 7},
		impl.EdAdd: {0, 1, 3, 5, 6, 7, 8}, impl.EdClose: {0, 1, 3, 6, 7}, impl.EdOpen: {0, 1, 3, 6, 7}, impl.EdBoot: {0, 7},
	}
}

func TestRecordsPutToDrawnTrees(t *testing.T) {
	d := draw(121)
	seen := map[[2]int]int{}
	for i := range 1500 {
		tree := d.grow(1 + i%14).tree
		for range 20 {
			e := d.editNear(tree)
			groups := []int{1, 99000, 1 + d.below(99000), 1 + d.below(99000)}[d.below(4)]
			code := wantAsOwn(t, "drawn", tree, e, groups)
			seen[[2]int{e.Kind, code}]++
		}
	}
	for kind, codes := range codesOfKinds() {
		for code := range 9 {
			count := seen[[2]int{kind, code}]
			if slices.Contains(codes, code) && count < 10 || !slices.Contains(codes, code) && count > 0 {
				t.Errorf("the code %d of the kind %d comes %d times", code, kind, count)
			}
		}
	}
}

// A tree stays right, whatever records it lives through.
func TestDrawnLivesOfTrees(t *testing.T) {
	d := draw(122)
	most := 0
	for range 40 {
		tree, groups := impl.TreeNew(), 1+d.below(3)*49000
		var list []impl.Edit
		var trees []impl.Tree
		var afters []int
		for range 150 {
			e := d.editNear(tree)
			if e.Kind == impl.EdDrop && d.below(5) > 0 {
				e = editCreate(e.Path, 1+d.below(9))
			}
			list = append(list, e)
			wantAsOwn(t, "a life", tree, e, groups)
			next, code := impl.Apply(tree, e, groups)
			if !impl.TreeOk(next) || code != 0 && !sameTree(next, tree) {
				t.Fatalf("behind %+v comes %+v, %d", e, next, code)
			}
			groups = impl.GroupsAfter(tree, e, groups)
			tree = next
			trees, afters = append(trees, tree), append(afters, groups)
			most = max(most, len(tree.Nodes))
		}
		for _, cut := range []int{0, 1, 2, 75, 148, 149} {
			part, g := impl.ApplyAll(trees[cut], list[cut+1:], afters[cut])
			if !sameTree(part, tree) || g != groups {
				t.Fatalf("ApplyAll from record %d on = %+v, %d, want %+v, %d", cut, part, g, tree, groups)
			}
		}
	}
	if most != 14 {
		t.Errorf("the greatest tree has %d nodes", most)
	}
}

func TestApplyAllInTwoParts(t *testing.T) {
	d := draw(123)
	for range 60 {
		tree := d.grow(1 + d.below(10)).tree
		groups := []int{1, 98900, 98990, 99000, 99001, 0}[d.below(6)]
		var list []impl.Edit
		now, g := cloneTree(tree), groups
		for range 30 {
			e := d.editNear(now)
			list = append(list, e)
			now, g, _ = plainApply(now, e, g)
		}
		whole, after := impl.ApplyAll(tree, list, groups)
		if !sameTree(whole, now) || after != g {
			t.Fatalf("ApplyAll = %+v, %d, want %+v, %d", whole, after, now, g)
		}
		for cut := range len(list) + 1 {
			first, middle := impl.ApplyAll(tree, list[:cut], groups)
			second, end := impl.ApplyAll(first, list[cut:], middle)
			if !sameTree(second, whole) || end != after {
				t.Fatalf("cut behind %d, ApplyAll = %+v, %d, want %+v, %d", cut, second, end, whole, after)
			}
		}
	}
}

func TestApplyAllOfNone(t *testing.T) {
	trees := treesThatAreNotRight()
	trees["shed"], trees["new"] = shed(), impl.TreeNew()
	for what, tree := range trees {
		for _, groups := range []int{1, 0, -5, 99001, math.MaxInt, math.MinInt} {
			for _, list := range [][]impl.Edit{nil, {}} {
				if got, g := impl.ApplyAll(tree, list, groups); !sameTree(got, tree) || g != groups {
					t.Errorf("%s: ApplyAll of none with %d groups = %+v, %d", what, groups, got, g)
				}
			}
		}
	}
}

// Those that have a code are left, and the next ones are put to what is there.
func TestApplyAllGoesOnBehindACode(t *testing.T) {
	list := []impl.Edit{editMake("/d/e"), editMake("/d"), editMake("/d"), editCreate("/d/f", 1), {}, editAdd("/d/f", 17), editAdd("/d/g", 17), editOpen("/d/f", 2), editBoot(), editAdd("/d/f", 1), editDrop("/x"), editMove("/d", "/d/x")}
	want := treeOf(rootNode(), dirNode(2, 1, "d"), impl.Inode{Id: 3, Parent: 2, Name: "f", Schema: 1, Len: 18, Pieces: []impl.Piece{{Group: 10, Len: 16}, {Group: 11, Len: 1}, {Group: 32, Len: 1}}, Writer: 1})
	if got, groups := impl.ApplyAll(impl.TreeNew(), list, 10); !sameTree(got, want) || groups != 33 {
		t.Errorf("ApplyAll = %+v, %d, want %+v, 33", got, groups, want)
	}
	// Past 99000 groups nothing is done any more.
	boots := slices.Repeat([]impl.Edit{editBoot()}, 10)
	list = append(boots, editMake("/x"))
	for groups, end := range map[int]int{98801: 99001, 98800: 99000, 98981: 99001, 99000: 99020, 99001: 99001, 1: 201} {
		got, g := impl.ApplyAll(impl.TreeNew(), list, groups)
		if made := len(got.Nodes) == 2; g != end || made != (end <= 99000) {
			t.Errorf("ApplyAll of ten boots with %d groups = %+v, %d, want %d", groups, got, g, end)
		}
	}
	if got, g := impl.ApplyAll(impl.TreeNew(), slices.Repeat([]impl.Edit{editBoot()}, 20000), 1); g != 99001 || !sameTree(got, impl.TreeNew()) {
		t.Errorf("ApplyAll of very many boots = %+v, %d", got, g)
	}
}

func TestGroupsOf(t *testing.T) {
	tree := shed()
	tree.Nodes[2].Pieces = []impl.Piece{{Group: 90, Len: 24}, {Group: 7, Len: 5}}
	tree.Nodes[3].Pieces = []impl.Piece{{Group: 100000, Len: 16}}
	tree.Nodes[5].Pieces = []impl.Piece{{Group: 8, Len: 32}}
	wantTreeOk(t, "groups", tree, true)
	for id, want := range map[int][]int{1: {7, 8, 90, 100000}, 2: {7, 8, 90, 100000}, 3: {7, 90}, 4: {100000}, 5: {8}, 6: {8}, 7: nil, 9: nil, 8: nil, 10: nil, 0: nil, -1: nil, math.MaxInt: nil, math.MinInt: nil, 1<<32 + 1: nil} {
		if got := impl.GroupsOf(tree, id); !slices.Equal(got, want) {
			t.Errorf("GroupsOf %d = %d, want %d", id, got, want)
		}
	}
	// An ascending list has no two alike, be they of one file or of two.
	same := shed()
	for id, want := range map[int][]int{1: {1, 2}, 2: {1, 2}, 3: {1, 2}, 4: {1}, 5: {1}, 6: {1}} {
		if got := impl.GroupsOf(same, id); !slices.Equal(got, want) {
			t.Errorf("GroupsOf %d = %d, want %d", id, got, want)
		}
	}
	twice := treeOf(rootNode(), fileNode(2, 1, "f", 1, 3, 4, 5))
	twice.Nodes[1].Pieces = []impl.Piece{{Group: 5, Len: 3}, {Group: 3, Len: 4}, {Group: 5, Len: 5}}
	if got := impl.GroupsOf(twice, 2); !slices.Equal(got, []int{3, 5}) {
		t.Errorf("GroupsOf = %d", got)
	}
}

func TestGroupsOfDrawnTrees(t *testing.T) {
	d := draw(124)
	for i := range 300 {
		g := d.grow(1 + i%14)
		for at := range g.tree.Nodes {
			for j := range g.tree.Nodes[at].Pieces {
				if d.below(2) == 0 {
					g.tree.Nodes[at].Pieces[j].Group = 1 + d.below(30)
				}
			}
		}
		for _, id := range append(idsAbout(g.tree), 0) {
			seen := map[int]int{}
			p, there := g.paths[id]
			for _, node := range g.tree.Nodes {
				for _, piece := range node.Pieces {
					if there && slices.Contains(g.under(p), node.Id) {
						seen[piece.Group]++
					}
				}
			}
			var want []int
			for group := range seen {
				want = append(want, group)
			}
			slices.Sort(want)
			if got := impl.GroupsOf(g.tree, id); !slices.Equal(got, want) {
				t.Fatalf("GroupsOf %d = %d, want %d", id, got, want)
			}
		}
	}
}

// The groups that are added are just those by which GroupsAfter goes on.
func TestGroupsThatAreTaken(t *testing.T) {
	tree, groups := treeOf(rootNode(), written(fileNode(2, 1, "f", 2), 1), written(fileNode(3, 1, "g", 1), 1)), 40
	for i, num := range []int{1, 24, 25, 48, 100, 200, 7} {
		p := []string{"/f", "/g"}[i%2]
		before := impl.GroupsOf(tree, 1)
		after := impl.GroupsAfter(tree, editAdd(p, num), groups)
		tree, _ = impl.Apply(tree, editAdd(p, num), groups)
		var taken []int
		for group := groups; group < after; group++ {
			taken = append(taken, group)
		}
		if got := impl.GroupsOf(tree, 1); !slices.Equal(got, append(before, taken...)) || len(taken) != len(impl.Spans(2-i%2, num)) {
			t.Errorf("behind %d bytes the groups are %d, not %d and %d", num, got, before, taken)
		}
		groups = after
	}
}

// oneOfEachKind has a record of each kind that the shed takes, and some that it refuses.
func oneOfEachKind() []impl.Edit {
	return []impl.Edit{
		editMake("/o/x"), editCreate("/d/x", 1), editMove("/d", "/o/xy"), editDrop("/d/f"), editSchema("/d", 2), editQuota("/", 999),
		editAdd("/d/f", 60), editClose("/d/f"), editOpen("/d/g", 1), editBoot(),
		editMake("/d"), editMake("/x/y"), editMove("/d", "/d/x"), editAdd("/d", 1), editQuota("/d", 1), {}, editMake("/d/"),
	}
}

func TestApplyWritesIntoNoArgument(t *testing.T) {
	behind, mark := fileNode(77, 77, "behind", 3, 5), impl.Piece{Group: 77, Len: 77}
	for _, e := range oneOfEachKind() {
		for _, right := range []bool{true, false} {
			tree := shed()
			if !right {
				tree.Next = 3
			}
			tree.Nodes = spare(tree.Nodes, behind)
			var rooms [][]impl.Piece
			for i := range tree.Nodes {
				tree.Nodes[i].Pieces = spare(tree.Nodes[i].Pieces, mark)
				rooms = append(rooms, tree.Nodes[i].Pieces[len(tree.Nodes[i].Pieces):cap(tree.Nodes[i].Pieces)][:3])
			}
			list := spare([]impl.Edit{e, editBoot(), e}, editDrop("/behind"))
			whole, edits := impl.Tree{Nodes: tree.Nodes[:len(tree.Nodes)+3], Next: tree.Next}, slices.Clone(list[:6])
			before := cloneTree(whole)
			a, _ := impl.Apply(tree, e, 5)
			b, _ := impl.ApplyAll(tree, list, 5)
			impl.GroupsAfter(tree, e, 5)
			scribbleTree(a)
			scribbleTree(b)
			scribbleNumbers(impl.GroupsOf(tree, 1))
			if !sameTree(whole, before) || !slices.Equal(list[:6], edits) {
				t.Errorf("%+v writes into an argument, or shares memory with it", e)
			}
			for _, room := range rooms {
				if slices.ContainsFunc(room, func(one impl.Piece) bool { return one != mark }) {
					t.Errorf("%+v writes behind Pieces: %+v", e, room)
				}
			}
		}
	}
}

// scribbleTree writes over all the memory that a tree has, also that behind its lists.
func scribbleTree(tree impl.Tree) {
	nodes := tree.Nodes[:cap(tree.Nodes)]
	for i := range nodes {
		pieces := nodes[i].Pieces[:cap(nodes[i].Pieces)]
		for j := range pieces {
			pieces[j] = impl.Piece{Group: -1, Len: -1}
		}
		nodes[i] = impl.Inode{Id: -1, Name: "scribble", Len: -1}
	}
}

func scribbleNumbers(list []int) {
	for i := range list[:cap(list)] {
		list[:cap(list)][i] = -1
	}
}

// ownNames is a tree and a record in memory of their own, and the texts that they have there.
func ownNames(tree impl.Tree, e impl.Edit) (impl.Tree, impl.Edit, []string) {
	tree = cloneTree(tree)
	e.Path, e.To = ownText(e.Path), ownText(e.To)
	texts := []string{e.Path, e.To}
	for i := range tree.Nodes {
		tree.Nodes[i].Name = ownText(tree.Nodes[i].Name + "long")
		texts = append(texts, tree.Nodes[i].Name)
	}
	tree.Nodes[0].Name = ""
	return tree, e, texts
}

func TestApplyAnswersNewTexts(t *testing.T) {
	for _, e := range []impl.Edit{
		editMake("/olong/other"), editCreate("/dlong/other", 1), editMove("/dlong", "/olong/other"), editDrop("/dlong/flong"), editSchema("/dlong", 2),
		editQuota("/", 999), editAdd("/dlong/flong", 60), editClose("/dlong/flong"), editOpen("/dlong/glong", 1), editBoot(), editMake("/dlong"), {},
	} {
		for _, right := range []bool{true, false} {
			tree, e, texts := ownNames(shed(), e)
			if !right {
				tree.Next = 3
			}
			a, code := impl.Apply(tree, e, 5)
			if right != (code == 0) && e.Kind != 0 && e.Path != "/dlong" {
				t.Errorf("%+v has the code %d", e, code)
			}
			b, _ := impl.ApplyAll(tree, []impl.Edit{e, editBoot()}, 5)
			for _, got := range []impl.Tree{a, b} {
				var names []string
				for _, node := range got.Nodes {
					if node.Name != "" {
						names = append(names, node.Name)
					}
				}
				wantNewTexts(t, "Apply", names, texts)
			}
			none, _ := impl.ApplyAll(tree, nil, 5)
			var names []string
			for _, node := range none.Nodes[1:] {
				names = append(names, node.Name)
			}
			wantNewTexts(t, "ApplyAll of none", names, texts)
		}
	}
}

// All files have one list of Pieces, with room behind it; in the answer each has its own.
func TestListsOfOneAnswerShareNothing(t *testing.T) {
	tree := treeOf(rootNode(), written(fileNode(2, 1, "f", 1), 1), written(fileNode(3, 1, "g", 1), 1), written(fileNode(4, 1, "h", 1), 1))
	room := spare([]impl.Piece{{Group: 4, Len: 4}, {Group: 5, Len: 5}}, impl.Piece{Group: 77, Len: 7})
	for i := range tree.Nodes[1:] {
		tree.Nodes[1+i].Pieces, tree.Nodes[1+i].Len = room, 9
	}
	for _, e := range []impl.Edit{editAdd("/g", 20), editBoot(), editDrop("/f"), editMake("/x"), editMake("/f"), editMove("/f", "/z"), {}} {
		want, _, _ := plainApply(cloneTree(tree), e, 9)
		for at := range want.Nodes {
			a, _ := impl.Apply(tree, e, 9)
			b, _ := impl.ApplyAll(tree, []impl.Edit{e, {}}, 9)
			c, _ := impl.ApplyAll(want, nil, 9)
			for _, got := range []impl.Tree{a, b, c} {
				pieces := got.Nodes[at].Pieces
				for j := range pieces[:cap(pieces)] {
					pieces[:cap(pieces)][j] = impl.Piece{}
				}
				got.Nodes[at] = want.Nodes[at]
				if !sameTree(got, want) {
					t.Errorf("behind %+v the Pieces of %d are those of others, too", e, want.Nodes[at].Id)
				}
			}
		}
	}
	if !slices.Equal(room[:5], []impl.Piece{{Group: 4, Len: 4}, {Group: 5, Len: 5}, {Group: 77, Len: 7}, {Group: 77, Len: 7}, {Group: 77, Len: 7}}) {
		t.Errorf("what is behind a list is written into: %+v", room[:5])
	}
}

func TestApplyWritesIntoNoText(t *testing.T) {
	for _, e := range oneOfEachKind() {
		path, to, name := []byte(e.Path+"behind"), []byte(e.To+"behind"), []byte("fbehind")
		tree := shed()
		tree.Nodes[2].Name = unsafe.String(&name[0], 1)
		seen := e
		seen.Path, seen.To = unsafe.String(&path[0], len(e.Path)), unsafe.String(&to[0], len(e.To))
		impl.Apply(tree, seen, 5)
		impl.GroupsAfter(tree, seen, 5)
		impl.ApplyAll(tree, []impl.Edit{seen, seen}, 5)
		impl.GroupsOf(tree, 2)
		if string(path) != e.Path+"behind" || string(to) != e.To+"behind" || string(name) != "fbehind" {
			t.Errorf("a text, or what is behind it, is written into: %q, %q, %q", path, to, name)
		}
	}
}

func TestRecordsDoTheSameEachTime(t *testing.T) {
	d := draw(125)
	for range 10 {
		tree := d.grow(12).tree
		var list []impl.Edit
		for range 20 {
			list = append(list, d.editNear(tree))
		}
		want, groups := impl.ApplyAll(tree, list, 3)
		of := impl.GroupsOf(tree, 1)
		for range 50 {
			if got, g := impl.ApplyAll(tree, list, 3); !sameTree(got, want) || g != groups || !slices.Equal(impl.GroupsOf(tree, 1), of) {
				t.Fatalf("ApplyAll = %+v, %d, want %+v, %d", got, g, want, groups)
			}
		}
	}
}

// A record comes back from its text and does the same.
func TestRecordsFromTheirTextsDoTheSame(t *testing.T) {
	for _, e := range oneOfEachKind() {
		text, ok := impl.EditText(e)
		if !ok {
			continue
		}
		back, _ := impl.ReadEdit(text)
		a, code := impl.Apply(shed(), e, 5)
		b, again := impl.Apply(shed(), back, 5)
		if !sameTree(a, b) || code != again {
			t.Errorf("%+v does another thing, read back", e)
		}
	}
}
