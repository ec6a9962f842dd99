package tests

import (
	"fmt"
	"maps"
	"math"
	"slices"
	"strings"
	"sync"
	"testing"

	"loop.example/g00197/impl"
)

func plainWritten(w impl.World, p string) (string, bool) {
	node, ok := plainFile(w.Server.Tree, p)
	if !ok {
		return "", false
	}
	text := ""
	for _, piece := range node.Pieces {
		text += plainSize(w.Sizes, piece.Group).Text
	}
	return text, true
}

func plainTrue(w impl.World, p string) bool {
	text, ok := plainText(w, p)
	written, there := plainWritten(w, p)
	return !ok || there && text == written
}

func filesOf(tree impl.Tree) []impl.Inode {
	return slices.DeleteFunc(slices.Clone(tree.Nodes), func(node impl.Inode) bool { return node.Dir })
}

func plainEnough(w impl.World) bool {
	for _, node := range filesOf(w.Server.Tree) {
		c, _ := schemaFor(node.Schema)
		for _, piece := range node.Pieces {
			if plainLeft(w.Hosts, node.Schema, piece.Group) < c.units {
				return false
			}
		}
	}
	return true
}

func plainAllRead(w impl.World) bool {
	for _, node := range filesOf(w.Server.Tree) {
		if _, ok := plainText(w, plainTold(w.Server.Tree, node.Id).Path); !ok {
			return false
		}
	}
	return true
}

func plainRecovered(s impl.Server) bool {
	return impl.DiskOk(s.Disk) && (!s.Up || sameTree(plainRecover(s.Disk).tree, s.Tree))
}

func plainSound(w impl.World) bool {
	if !plainTreeOk(w.Server.Tree) || !plainRecovered(w.Server) || plainEnough(w) && !plainAllRead(w) {
		return false
	}
	for _, node := range filesOf(w.Server.Tree) {
		if !plainTrue(w, plainTold(w.Server.Tree, node.Id).Path) {
			return false
		}
		for _, piece := range node.Pieces {
			if len(plainSize(w.Sizes, piece.Group).Text) != piece.Len {
				return false
			}
		}
	}
	return true
}

// verdict is what is told of a world as a whole.
type verdict struct{ enough, allRead, recovered, sound bool }

func verdictOf(w impl.World) verdict {
	return verdict{impl.EnoughLeft(w), impl.AllRead(w), impl.Recovered(w.Server), impl.SoundWorld(w)}
}

func plainVerdict(w impl.World) verdict {
	return verdict{plainEnough(w), plainAllRead(w), plainRecovered(w.Server), plainSound(w)}
}

func wantVerdict(t *testing.T, what string, w impl.World, want verdict) {
	t.Helper()
	before := cloneWorld(w)
	if got := verdictOf(w); got != want {
		t.Errorf("%s: the verdict is %+v, want %+v, of %s", what, got, want, tellWorld(w))
	}
	if own := plainVerdict(w); own != want {
		t.Errorf("%s: the test's own verdict is %+v, want %+v", what, own, want)
	}
	wantWorld(t, what+", what was handed in", w, before)
}

func wantWrittenOf(t *testing.T, what string, w impl.World, p, want string, wantOk bool) {
	t.Helper()
	if text, ok := impl.WrittenOf(w, p); text != want || ok != wantOk {
		t.Errorf("%s: WrittenOf %.40q = %q, %v, want %q, %v", what, p, text, ok, want, wantOk)
	}
	if text, ok := plainWritten(w, p); text != want || ok != wantOk {
		t.Errorf("%s: the test's own WrittenOf %.40q = %q, %v, want %q, %v", what, p, text, ok, want, wantOk)
	}
}

func wantTrue(t *testing.T, what string, w impl.World, p string, want bool) {
	t.Helper()
	if impl.TrueOrNot(w, p) != want || plainTrue(w, p) != want {
		t.Errorf("%s: TrueOrNot %.40q is %v (%v in the test's own way), want %v", what, p, impl.TrueOrNot(w, p), plainTrue(w, p), want)
	}
}

// wantFalseOfNone is of a path of which there is no file: nothing is written there, and nothing read.
func wantFalseOfNone(t *testing.T, what string, w impl.World, p string) {
	t.Helper()
	wantWrittenOf(t, what, w, p, "", false)
	wantTrue(t, what, w, p, true)
	wantNoText(t, what, w, p)
}

// pathsOfWorld has the path of each node, each name below the root, and some more.
func pathsOfWorld(w impl.World) []string {
	paths := []string{"", "/", "/none", "x", "/d/f", "/a/a/a"}
	for _, node := range w.Server.Tree.Nodes[:min(20, len(w.Server.Tree.Nodes))] {
		paths = append(paths, plainTold(w.Server.Tree, node.Id).Path, "/"+node.Name)
	}
	return paths
}

// wantAsPlainTruths asks all functions of the chapter, each against the test's own.
func wantAsPlainTruths(t *testing.T, what string, w impl.World) verdict {
	t.Helper()
	want := plainVerdict(w)
	wantVerdict(t, what, w, want)
	for _, p := range pathsOfWorld(w) {
		text, ok := plainWritten(w, p)
		wantWrittenOf(t, what, w, p, text, ok)
		wantTrue(t, what, w, p, plainTrue(w, p))
	}
	if t.Failed() {
		t.FailNow()
	}
	return want
}

// storedWorld has each Piece of a tree written on seven hosts. Its server is not Up, so that no log
// must tell of the tree.
func storedWorld(t *testing.T, tree impl.Tree) impl.World {
	t.Helper()
	w := impl.World{Server: impl.Server{Tree: cloneTree(tree)}, Hosts: upHosts(7)}
	for at := range w.Server.Tree.Nodes {
		node := &w.Server.Tree.Nodes[at]
		for i := range node.Pieces {
			piece := &node.Pieces[i]
			piece.Group = 10*node.Id + i
			text := drawn(220+piece.Group, piece.Len)
			w.Hosts = mustWrite(t, "a stored world", w.Hosts, node.Schema, piece.Group, text)
			w.Sizes = append(w.Sizes, impl.Size{Group: piece.Group, Text: text})
		}
	}
	return w
}

// hallOf is a stored world of one file /hall of a schema, of so many bytes in each Piece.
func hallOf(t *testing.T, s int, lengths ...int) impl.World {
	t.Helper()
	return storedWorld(t, treeOf(rootNode(), fileNode(2, 1, "hall", s, lengths...)))
}

// sound is of a world in which all that must be so is so, and all is read.
func soundVerdict() verdict { return verdict{true, true, true, true} }

// withTree is the world with another tree.
func withTree(w impl.World, change func(tree *impl.Tree)) impl.World {
	w = cloneWorld(w)
	change(&w.Server.Tree)
	return w
}

func withNode(w impl.World, at int, change func(node *impl.Inode)) impl.World {
	return withTree(w, func(tree *impl.Tree) { change(&tree.Nodes[at]) })
}

func withSizes(w impl.World, sizes ...impl.Size) impl.World {
	w = cloneWorld(w)
	w.Sizes = sizes
	return w
}

func TestTruthsOfNewWorlds(t *testing.T) {
	none := mustRun(t, "no event", nil)
	for what, w := range map[string]impl.World{"new": impl.WorldNew(), "of no event": none, "no hosts": {Server: impl.ServerNew()}} {
		wantVerdict(t, what, w, soundVerdict())
		for _, p := range append(pathsOfEachDepth(), "/", "", "x") {
			wantFalseOfNone(t, what, w, p)
		}
	}
	// Without a root there is no right tree, but there is no file, either, that is not read.
	wantVerdict(t, "nothing", impl.World{}, verdict{true, true, true, false})
	for _, p := range append(pathsOfEachDepth(), "/", "", "x") {
		wantFalseOfNone(t, "nothing", impl.World{}, p)
	}
	for _, hosts := range [][]impl.Host{nil, upHosts(7)} {
		w := impl.WorldNew()
		w.Hosts = hosts
		w.Server.Tree = treeOf(rootNode(), dirNode(2, 1, "d"))
		wantVerdict(t, "a directory that no log tells", w, verdict{true, true, false, false})
		w.Server.Up = false
		wantVerdict(t, "a directory", w, soundVerdict())
		wantFalseOfNone(t, "a directory", w, "/d")
	}
}

func TestTruthsOfFilesWithoutPieces(t *testing.T) {
	s := storyOf(t, "without pieces", evMake("/d"), evCreate(1, "/d/f"), evCreate(2, "/g"))
	empty := func(paths ...string) {
		t.Helper()
		wantVerdict(t, s.what, s.now, soundVerdict())
		for _, p := range paths {
			wantWrittenOf(t, s.what, s.now, p, "", true)
			wantText(t, s.what, s.now, p, "")
			wantTrue(t, s.what, s.now, p, true)
		}
		wantFalseOfNone(t, s.what, s.now, "/d")
		wantFalseOfNone(t, s.what, s.now, "/none")
	}
	empty("/d/f", "/g")
	// Without any host at all nothing is missed.
	for host := 1; host <= impl.MaxHosts; host++ {
		s.then(evHost(impl.EvHostDown, host), 0, "")
		empty("/d/f", "/g")
	}
	bare := cloneWorld(s.now)
	bare.Hosts = nil
	wantVerdict(t, "no hosts", bare, soundVerdict())
	s.then(evMove(1, "/d/f", "/d/h"), 0, "")
	empty("/d/h", "/g")
	wantFalseOfNone(t, "moved", s.now, "/d/f")
	s.then(evOf(impl.EvFall), 0, "")
	empty("/d/h", "/g")
	s.then(evOf(impl.EvRise), 0, "")
	empty("/d/h", "/g")
	s.then(evDrop(2, "/g"), 0, "")
	empty("/d/h")
	wantFalseOfNone(t, "dropped", s.now, "/g")
	// Beside one that is not read they are still read by themselves.
	other := storyOf(t, "beside another one", evCreate(1, "/a"), evCreate(1, "/b"), evCreate(1, "/c"), evAppend(1, "/b", "hall"), evHost(impl.EvLose, 1), evHost(impl.EvLose, 2))
	wantVerdict(t, other.what, other.now, verdict{false, false, true, true})
	for _, p := range []string{"/a", "/c"} {
		wantText(t, other.what, other.now, p, "")
		wantWrittenOf(t, other.what, other.now, p, "", true)
	}
	wantNoText(t, other.what, other.now, "/b")
	wantWrittenOf(t, other.what, other.now, "/b", "hall", true)
	wantTrue(t, other.what, other.now, "/b", true)
}

// Sizes that have nothing to do with a file say nothing of it.
func TestWrittenOfWhatIsNotThere(t *testing.T) {
	w := storedWorld(t, shed())
	w.Sizes = append(w.Sizes, impl.Size{Group: 0, Text: "nought"}, impl.Size{Group: 99, Text: "far"})
	for _, p := range append(pathsOfEachDepth(), "/", "/d", "/d/e", "/o", "/d/f/f", "/f", "/d/none") {
		wantFalseOfNone(t, "not there", w, p)
	}
	for what, p := range textsThatAreNoPaths() {
		wantFalseOfNone(t, what, w, p)
	}
	wantWrittenOf(t, "there", w, "/r", "", true)
	for _, p := range []string{"/d/f", "/d/g", "/d/e/h"} {
		text, ok := impl.TextOf(w, p)
		wantWrittenOf(t, "there", w, p, text, ok)
	}
}

// What is written in several parts is told in the order of the Pieces, whatever comes between.
func TestWrittenOfSeveralParts(t *testing.T) {
	for _, c := range schemas() {
		s := storyOf(t, fmt.Sprintf("schema %d", c.s), evSchema("/", c.s), evCreate(1, "/f"), evCreate(2, "/g"))
		texts := map[string]string{"/f": "", "/g": ""}
		for i, length := range []int{1, c.size() - 1, c.size(), c.size() + 1, 60, 59, 2, 33, 7, 7} {
			p, text := []string{"/f", "/g"}[i%2], drawn(240+i, length)
			s.then(evAppend(1+i%2, p, text), 0, "")
			texts[p] += text
			for p, text := range texts {
				wantWrittenOf(t, s.what, s.now, p, text, true)
				wantTrue(t, s.what, s.now, p, true)
			}
			wantVerdict(t, s.what, s.now, soundVerdict())
		}
		// The order in which the Sizes stand is nothing to it.
		turned := cloneWorld(s.now)
		slices.Reverse(turned.Sizes)
		for p, text := range texts {
			wantWrittenOf(t, s.what+", turned", turned, p, text, true)
		}
		wantVerdict(t, s.what+", turned", turned, soundVerdict())
		// What was written is told of what can't be read, too.
		s.all(evClose(1, "/f"), evMove(9, "/f", "/h"))
		for host := 1; host <= impl.MaxHosts; host++ {
			s.then(evHost(impl.EvLose, host), 0, "")
		}
		wantWrittenOf(t, s.what+", lost", s.now, "/h", texts["/f"], true)
		wantWrittenOf(t, s.what+", lost", s.now, "/g", texts["/g"], true)
		wantFalseOfNone(t, s.what+", lost", s.now, "/f")
		wantVerdict(t, s.what+", lost", s.now, verdict{false, false, true, true})
	}
}

func TestGroupsWithSeveralSizesOrNone(t *testing.T) {
	w := hallOf(t, impl.SchemaSmall, 16, 4)
	first, last := w.Sizes[0], w.Sizes[1]
	size := func(group int, text string) impl.Size { return impl.Size{Group: group, Text: text} }
	other := strings.Repeat("?", 16)
	for _, c := range []struct {
		what  string
		sizes []impl.Size
		want  string
		sound bool
	}{
		{"one each", []impl.Size{first, last}, first.Text + last.Text, true},
		{"turned about", []impl.Size{last, first}, first.Text + last.Text, true},
		{"another one ahead", []impl.Size{size(20, other), first, last}, first.Text + last.Text, true},
		{"others ahead", []impl.Size{size(21, ""), size(20, other), last, size(20, ""), first}, first.Text + last.Text, true},
		{"another one behind", []impl.Size{first, size(20, other), last}, other + last.Text, false},
		{"another one last", []impl.Size{first, last, size(21, "hall")}, first.Text + "hall", false},
		{"an empty one behind", []impl.Size{first, last, size(20, "")}, last.Text, false},
		{"the same one behind", []impl.Size{first, last, first, last, last}, first.Text + last.Text, true},
		{"those of other groups", []impl.Size{first, last, size(22, other), size(2, other), size(0, other), size(-20, other)}, first.Text + last.Text, true},
		{"the second without one", []impl.Size{first}, first.Text, false},
		{"the first without one", []impl.Size{last}, last.Text, false},
		{"none", nil, "", false},
		{"one of no group", []impl.Size{size(0, first.Text+last.Text)}, "", false},
		{"all in one", []impl.Size{size(20, first.Text+last.Text)}, first.Text + last.Text, false},
		{"a byte further on", []impl.Size{size(20, first.Text[:15]), size(21, first.Text[15:]+last.Text)}, first.Text + last.Text, false},
	} {
		got := withSizes(w, c.sizes...)
		wantWrittenOf(t, c.what, got, "/hall", c.want, true)
		wantTrue(t, c.what, got, "/hall", c.want == first.Text+last.Text)
		wantVerdict(t, c.what, got, verdict{true, true, true, c.sound})
		// When it is not read, it is not told otherwise: just how long it is counts.
		got.Hosts = nil
		wantWrittenOf(t, c.what+", no hosts", got, "/hall", c.want, true)
		wantTrue(t, c.what+", no hosts", got, "/hall", true)
		long := len(plainSize(c.sizes, 20).Text) == 16 && len(plainSize(c.sizes, 21).Text) == 4
		wantVerdict(t, c.what+", no hosts", got, verdict{false, false, true, long})
	}
}

// A Piece is as long as the Text of its SizeOf, and no byte longer or shorter.
func TestPiecesOfOtherLengths(t *testing.T) {
	for _, c := range schemas() {
		w := hallOf(t, c.s, c.size(), 9, 5)
		for i := range 3 {
			right := w.Sizes[i].Text
			for n := 0; n <= c.size()+2; n++ {
				sizes := slices.Clone(w.Sizes)
				sizes[i].Text = (right + strings.Repeat("\x00", c.size()))[:n]
				got, what := withSizes(w, sizes...), fmt.Sprintf("schema %d, piece %d, a Size of %d", c.s, i, n)
				wantTrue(t, what, got, "/hall", n == len(right))
				wantVerdict(t, what, got, verdict{true, true, true, n == len(right)})
				got.Hosts = nil
				wantVerdict(t, what+", no hosts", got, verdict{false, false, true, n == len(right)})
			}
			for n := 1; n <= c.size(); n++ {
				what := fmt.Sprintf("schema %d, piece %d of %d", c.s, i, n)
				got := withNode(w, 1, func(node *impl.Inode) {
					node.Len += n - len(right)
					node.Pieces[i].Len = n
				})
				wantTrue(t, what, got, "/hall", n == len(right))
				wantVerdict(t, what, got, verdict{true, true, true, n == len(right)})
				// Where a Size is as long, too, what was not written is read as bytes 0.
				sizes := slices.Clone(w.Sizes)
				sizes[i].Text = (right + strings.Repeat("\x00", c.size()))[:n]
				got = withSizes(got, sizes...)
				wantTrue(t, what+", with a Size", got, "/hall", true)
				wantVerdict(t, what+", with a Size", got, soundVerdict())
			}
		}
	}
}

// What is read, and is another text than what was written, is told, be it in a byte alone.
func TestFilesThatReadOtherwise(t *testing.T) {
	for _, c := range schemas() {
		w := hallOf(t, c.s, c.size(), 3)
		for i, size := range w.Sizes {
			for at := range size.Text {
				what := fmt.Sprintf("schema %d, group %d, byte %d", c.s, size.Group, at)
				other := turned(size.Text, at, 4)
				sized := cloneWorld(w)
				sized.Sizes[i].Text = other
				rewritten := cloneWorld(w)
				rewritten.Hosts = mustWrite(t, what, upHosts(7), c.s, size.Group, other)
				rest := w.Sizes[1-i]
				rewritten.Hosts = mustWrite(t, what, rewritten.Hosts, c.s, rest.Group, rest.Text)
				for way, got := range map[string]impl.World{"another Size": sized, "another text on the hosts": rewritten} {
					wantTrue(t, what+", "+way, got, "/hall", false)
					wantVerdict(t, what+", "+way, got, verdict{true, true, true, false})
				}
				both := cloneWorld(rewritten)
				both.Sizes[i].Text = other
				wantTrue(t, what+", both", both, "/hall", true)
				wantVerdict(t, what+", both", both, soundVerdict())
				// It is nothing to those who can't read it.
				for at := range rewritten.Hosts {
					rewritten.Hosts[at].Up = false
				}
				wantTrue(t, what+", all are down", rewritten, "/hall", true)
				wantVerdict(t, what+", all are down", rewritten, verdict{false, false, true, true})
			}
		}
		// Another file's text is not its own.
		two := storedWorld(t, treeOf(rootNode(), fileNode(2, 1, "hall", c.s, 8), fileNode(3, 1, "door", c.s, 8)))
		two = withTree(two, func(tree *impl.Tree) {
			tree.Nodes[1].Pieces[0], tree.Nodes[2].Pieces[0] = tree.Nodes[2].Pieces[0], tree.Nodes[1].Pieces[0]
		})
		wantVerdict(t, "turned about in the tree", two, soundVerdict())
		two.Sizes[0].Text, two.Sizes[1].Text = two.Sizes[1].Text, two.Sizes[0].Text
		wantTrue(t, "turned about", two, "/hall", false)
		wantTrue(t, "turned about", two, "/door", false)
		wantVerdict(t, "turned about", two, verdict{true, true, true, false})
	}
}

// The last of many files is looked at as the first one is.
func TestOneFileOfManyIsNotSo(t *testing.T) {
	nodes := []impl.Inode{rootNode(), dirNode(2, 1, "d")}
	for id := 3; id <= impl.MaxNodes; id++ {
		nodes = append(nodes, fileNode(id, 1+id%2, fmt.Sprintf("f%d", id), 1+id%3, 16, 3, 16, 1))
	}
	w := storedWorld(t, treeOf(nodes...))
	wantVerdict(t, "many files", w, soundVerdict())
	for at := 2; at < len(nodes); at++ {
		for i, piece := range w.Server.Tree.Nodes[at].Pieces {
			p, what := plainTold(w.Server.Tree, nodes[at].Id).Path, fmt.Sprintf("node %d, piece %d", at, i)
			one := cloneWorld(w)
			of := slices.IndexFunc(one.Sizes, func(size impl.Size) bool { return size.Group == piece.Group })
			one.Sizes[of].Text = turned(one.Sizes[of].Text, 0, 1)
			wantTrue(t, what+" reads otherwise", one, p, false)
			wantVerdict(t, what+" reads otherwise", one, verdict{true, true, true, false})
			one.Sizes = slices.Delete(one.Sizes, of, of+1)
			wantVerdict(t, what+" has no Size", one, verdict{true, true, true, false})
			gone := cloneWorld(w)
			for at := range gone.Hosts {
				gone.Hosts[at].Units = slices.DeleteFunc(gone.Hosts[at].Units, func(u impl.Unit) bool { return u.Group == piece.Group })
			}
			wantTrue(t, what+" is gone", gone, p, true)
			wantNoText(t, what+" is gone", gone, p)
			wantVerdict(t, what+" is gone", gone, verdict{false, false, true, true})
		}
	}
}

// withLosses is the world in which those units of a group are lost whose places are in a set of bits.
func withLosses(w impl.World, group, set int, lose func(h impl.Host, index int) impl.Host) impl.World {
	w = cloneWorld(w)
	for index := range 6 {
		if set>>index&1 == 0 {
			continue
		}
		for at, h := range w.Hosts {
			if slices.ContainsFunc(h.Units, func(u impl.Unit) bool { return u.Group == group && u.Index == index }) {
				w.Hosts[at] = lose(h, index)
			}
		}
	}
	return w
}

// There is enough as long as as many are left as there are units, be these units or sums.
func TestEnoughLeftOfEachSetOfUnits(t *testing.T) {
	for _, c := range schemas() {
		w := hallOf(t, c.s, c.size())
		for set := range 1 << c.all() {
			for what, lose := range losses(t, 20) {
				what := fmt.Sprintf("schema %d, %b are %s", c.s, set, what)
				got := withLosses(w, 20, set, lose)
				left := c.all()
				for bits := set; bits > 0; bits >>= 1 {
					left -= bits & 1
				}
				if n := impl.LeftOf(got.Hosts, c.s, 20); n != left {
					t.Fatalf("%s: %d units are left, want %d", what, n, left)
				}
				wantVerdict(t, what, got, verdict{left >= c.units, left >= c.units, true, true})
				wantTrue(t, what, got, "/hall", true)
				wantWrittenOf(t, what, got, "/hall", w.Sizes[0].Text, true)
				if left >= c.units {
					wantText(t, what, got, "/hall", w.Sizes[0].Text)
				} else {
					wantNoText(t, what, got, "/hall")
				}
			}
		}
	}
}

// Each group counts by its own file's schema: 3 units are enough of one, and too few of another.
func TestEnoughLeftOfSeveralFiles(t *testing.T) {
	tree := treeOf(rootNode(), fileNode(2, 1, "a", 1, 16, 2), dirNode(3, 1, "d"), fileNode(4, 3, "b", 2, 24, 24, 1), fileNode(5, 1, "c", 3, 32, 32), fileNode(6, 1, "e", 3))
	w := storedWorld(t, tree)
	lose := func(h impl.Host, index int) impl.Host { return h }
	wantVerdict(t, "all are there", withLosses(w, 20, 63, lose), soundVerdict())
	for _, node := range filesOf(w.Server.Tree) {
		c, _ := schemaFor(node.Schema)
		for _, piece := range node.Pieces {
			for count := range c.all() + 1 {
				for first := range c.all() - count + 1 {
					set := (1<<count - 1) << first
					lose := losses(t, piece.Group)["dropped"]
					if count%2 == 1 {
						lose = losses(t, piece.Group)["spoilt"]
					}
					got := withLosses(w, piece.Group, set, lose)
					what := fmt.Sprintf("group %d, without %d from %d on", piece.Group, count, first)
					wantVerdict(t, what, got, verdict{count <= c.sums, count <= c.sums, true, true})
					for _, other := range filesOf(w.Server.Tree) {
						p := plainTold(w.Server.Tree, other.Id).Path
						if _, ok := impl.TextOf(got, p); ok != (other.Id != node.Id || count <= c.sums) {
							t.Errorf("%s: TextOf %s is %v", what, p, ok)
						}
						wantTrue(t, what, got, p, true)
					}
				}
			}
		}
	}
	// Groups that no file has say nothing, nor do those of a directory.
	stray := cloneWorld(w)
	stray.Sizes = append(stray.Sizes, impl.Size{Group: 77, Text: "stray"})
	wantVerdict(t, "a stray Size", stray, soundVerdict())
	stray.Hosts[0].Units = append(stray.Hosts[0].Units, unitOf(99, 0, "stray"))
	wantVerdict(t, "a stray unit", stray, soundVerdict())
	odd := withNode(w, 2, func(node *impl.Inode) { node.Pieces = []impl.Piece{{Group: 77, Len: 4}} })
	if !impl.EnoughLeft(odd) {
		t.Errorf("a directory's group is missed")
	}
	wantAsPlainTruths(t, "a directory with a Piece", odd)
}

// Enough may be left, and nothing read: that is not sound.
func TestEnoughThatIsNotRead(t *testing.T) {
	for _, c := range schemas() {
		w := hallOf(t, c.s, c.size())
		for at, h := range w.Hosts {
			for i, u := range h.Units {
				odd := cloneWorld(w)
				odd.Hosts[at].Units[i] = unitOf(u.Group, u.Index, u.Text+"x")
				what := fmt.Sprintf("schema %d, a unit on host %d is longer", c.s, h.Id)
				wantNoText(t, what, odd, "/hall")
				wantTrue(t, what, odd, "/hall", true)
				wantVerdict(t, what, odd, verdict{true, false, true, false})
				// With fewer than there must be it is as any that is lost.
				few := cloneWorld(odd)
				for other := range few.Hosts {
					if other != at {
						few.Hosts[other].Units = nil
					}
				}
				wantVerdict(t, what+", alone", few, verdict{false, false, true, true})
			}
		}
	}
}

// changesOfTrees make another tree of a right one, most of which are right as well.
func changesOfTrees() map[string]func(tree *impl.Tree) {
	node := func(change func(node *impl.Inode)) func(tree *impl.Tree) {
		return func(tree *impl.Tree) { change(&tree.Nodes[len(tree.Nodes)-2]) }
	}
	return map[string]func(tree *impl.Tree){
		"Next":                func(tree *impl.Tree) { tree.Next++ },
		"one node fewer":      func(tree *impl.Tree) { tree.Nodes = tree.Nodes[:len(tree.Nodes)-1] },
		"one node more":       func(tree *impl.Tree) { tree.Nodes = append(tree.Nodes, dirNode(99, 1, "more")); tree.Next = 100 },
		"no nodes":            func(tree *impl.Tree) { tree.Nodes = nil },
		"in another order":    func(tree *impl.Tree) { slices.Reverse(tree.Nodes) },
		"the root's Schema":   func(tree *impl.Tree) { tree.Nodes[0].Schema = 3 },
		"the root's Quota":    func(tree *impl.Tree) { tree.Nodes[0].Quota = 999 },
		"an Id":               node(func(node *impl.Inode) { node.Id += 50 }),
		"a Parent":            node(func(node *impl.Inode) { node.Parent = 1 }),
		"a Name":              node(func(node *impl.Inode) { node.Name = "other" }),
		"Dir":                 node(func(node *impl.Inode) { node.Dir = !node.Dir }),
		"a Schema":            node(func(node *impl.Inode) { node.Schema = 4 - node.Schema }),
		"a Quota":             node(func(node *impl.Inode) { node.Quota++ }),
		"a Len":               node(func(node *impl.Inode) { node.Len++ }),
		"a Writer":            node(func(node *impl.Inode) { node.Writer = 9 - node.Writer }),
		"a group":             node(func(node *impl.Inode) { node.Pieces[1].Group++ }),
		"a Piece's Len":       node(func(node *impl.Inode) { node.Pieces[1].Len-- }),
		"one Piece fewer":     node(func(node *impl.Inode) { node.Pieces = node.Pieces[:1] }),
		"one Piece more":      node(func(node *impl.Inode) { node.Pieces = append(node.Pieces, impl.Piece{Group: 9, Len: 1}) }),
		"no Pieces":           node(func(node *impl.Inode) { node.Pieces = nil }),
		"Pieces turned":       node(func(node *impl.Inode) { slices.Reverse(node.Pieces) }),
		"another life's tree": func(tree *impl.Tree) { *tree = hall() },
		"a new tree":          func(tree *impl.Tree) { *tree = impl.TreeNew() },
	}
}

func wantRecoveredOrNot(t *testing.T, what string, s impl.Server, want bool) {
	t.Helper()
	before := cloneServer(s)
	if impl.Recovered(s) != want || plainRecovered(s) != want {
		t.Errorf("%s: Recovered is %v (%v in the test's own way), want %v, of %s", what, impl.Recovered(s), plainRecovered(s), want, tellServer(s))
	}
	wantServer(t, what+", what was handed in", s, before)
}

// A server that is Up has the tree that its log tells; one that is not may have another one.
func TestServersThatAreRecovered(t *testing.T) {
	s := withLog(logLife()...)
	if nodes := s.Tree.Nodes; len(nodes[len(nodes)-2].Pieces) != 3 {
		t.Fatalf("the tree is %s", inShort(s.Tree))
	}
	wantRecoveredOrNot(t, "Up", s, true)
	wantRecoveredOrNot(t, "not Up", fallen(s), true)
	for what, change := range changesOfTrees() {
		other := cloneServer(s)
		change(&other.Tree)
		wantRecoveredOrNot(t, what+", Up", other, false)
		wantRecoveredOrNot(t, what+", not Up", fallen(other), true)
		w := impl.World{Server: other, Hosts: upHosts(7)}
		if impl.SoundWorld(w) {
			t.Errorf("%s: sound", what)
		}
	}
	// What is not the tree is nothing to it.
	for _, far := range append(farNumbers(), 0, 1) {
		other := heldServer()
		other.Groups, other.Now, other.Leases = far, far, []impl.Lease{{Path: "no path", Who: far, Seen: far}, {}}
		wantRecoveredOrNot(t, "other numbers", other, true)
		wantRecoveredOrNot(t, "other numbers, not Up", fallen(other), true)
	}
	empty := cloneServer(s)
	for i := range empty.Tree.Nodes {
		if len(empty.Tree.Nodes[i].Pieces) == 0 {
			empty.Tree.Nodes[i].Pieces = []impl.Piece{}
		}
	}
	wantRecoveredOrNot(t, "empty lists", empty, true)
	wantRecoveredOrNot(t, "new", impl.ServerNew(), true)
	wantRecoveredOrNot(t, "new, not Up", fallen(impl.ServerNew()), true)
	wantRecoveredOrNot(t, "nothing", impl.Server{}, true)
	wantRecoveredOrNot(t, "nothing, Up", impl.Server{Up: true}, false)
}

// Each record that is in the log counts, and not a byte of one that is torn.
func TestLogsThatAreRecovered(t *testing.T) {
	list := logLife()
	text, ends := logOf(list...)
	for from := range len(text) + 1 {
		at, records := 0, 0
		for i, end := range ends {
			if end <= from {
				at, records = end, i+1
			}
		}
		tree, _ := plainTree(list[:records])
		whole, _ := plainTree(list)
		for name, others := range map[string][]impl.File{"alone": nil, "beside others": {file("log+", "left", 2), file("other", text, 9)}} {
			what := fmt.Sprintf("%d bytes, %s", from, name)
			disk := diskOf(append([]impl.File{file("log", text[:from], at)}, others...)...)
			wantRecoveredOrNot(t, what, impl.Server{Up: true, Tree: tree, Disk: disk}, true)
			wantRecoveredOrNot(t, what+", not Up", impl.Server{Tree: tree, Disk: disk}, true)
			wantRecoveredOrNot(t, what+", the whole tree", impl.Server{Up: true, Tree: whole, Disk: disk}, sameTree(tree, whole))
			wantRecoveredOrNot(t, what+", the whole tree, not Up", impl.Server{Tree: whole, Disk: disk}, true)
		}
	}
	// A log under another name is none.
	for _, name := range []string{"log+", "Log", "lo", "other"} {
		s := withLog(list...)
		s.Disk = diskOf(file(name, text, len(text)))
		wantRecoveredOrNot(t, "the log is named "+name, s, false)
		s.Tree = impl.TreeNew()
		wantRecoveredOrNot(t, "the log is named "+name+", a new tree", s, true)
	}
}

func TestDisksThatAreNotRecovered(t *testing.T) {
	for what, disk := range wrongDisks() {
		for _, up := range []bool{true, false} {
			for name, tree := range map[string]impl.Tree{"a new tree": impl.TreeNew(), "no tree": {}, "a tree": hall()} {
				what := fmt.Sprintf("%s, Up %v, %s", what, up, name)
				s := impl.Server{Up: up, Tree: tree, Groups: 1, Disk: disk}
				wantRecoveredOrNot(t, what, s, false)
				w := impl.World{Server: s, Hosts: upHosts(7)}
				wantAsPlainTruths(t, what, w)
			}
			w := impl.WorldNew()
			w.Server.Up, w.Server.Disk = up, disk
			wantVerdict(t, what+", all else is right", w, verdict{true, true, false, false})
		}
	}
}

// Each of the things that must be so of a sound world, broken alone.
func TestWorldsThatAreNotSound(t *testing.T) {
	w := storedWorld(t, shed())
	wantVerdict(t, "sound", w, soundVerdict())
	lost := cloneWorld(w)
	lost.Hosts = nil
	wantVerdict(t, "nothing is read", lost, verdict{false, false, true, true})
	next := withTree(impl.WorldNew(), func(tree *impl.Tree) { tree.Next = 1 })
	next.Server.Up = false
	wantVerdict(t, "the tree, without files", next, verdict{true, true, true, false})
	wantVerdict(t, "the tree, with files", withTree(w, func(tree *impl.Tree) { tree.Next = 100001 }), verdict{true, false, true, false})
	wantVerdict(t, "the tree, nothing is read", withTree(lost, func(tree *impl.Tree) { tree.Next = 100001 }), verdict{false, false, true, false})
	otherwise := cloneWorld(w)
	otherwise.Sizes[0].Text = turned(otherwise.Sizes[0].Text, 5, 2)
	wantVerdict(t, "what is read", otherwise, verdict{true, true, true, false})
	further := cloneWorld(w)
	text := further.Sizes[0].Text + further.Sizes[1].Text
	further.Sizes[0].Text, further.Sizes[1].Text = text[:23], text[23:]
	wantTrue(t, "how long a Piece is", further, "/d/f", true)
	wantVerdict(t, "how long a Piece is", further, verdict{true, true, true, false})
	further.Hosts = nil
	wantVerdict(t, "how long a Piece is, nothing is read", further, verdict{false, false, true, false})
	odd := cloneWorld(w)
	odd.Hosts[0].Units[0] = unitOf(odd.Hosts[0].Units[0].Group, odd.Hosts[0].Units[0].Index, "longer than the others")
	wantVerdict(t, "enough, and not read", odd, verdict{true, false, true, false})
	up := cloneWorld(w)
	up.Server.Up = true
	wantVerdict(t, "the log", up, verdict{true, true, false, false})
	up.Hosts = nil
	wantVerdict(t, "the log, nothing is read", up, verdict{false, false, false, false})
	wrong := cloneWorld(w)
	wrong.Server.Disk = diskOf(file("", "x", 0))
	wantVerdict(t, "the disk", wrong, verdict{true, true, false, false})
	// Codes, what was told, leases, Groups and Now are nothing to it.
	other := cloneWorld(w)
	other.Codes, other.Told = []int{99, -1}, []string{"anything"}
	other.Server.Leases, other.Server.Groups, other.Server.Now = []impl.Lease{{}, {Who: -1}}, -5, -7
	wantVerdict(t, "other fields", other, soundVerdict())
}

// ledger has what was written to each file by asks that were answered, by its path.
type ledger map[string]string

// done is the ledger behind an ask. One that creates what is there already is refused.
func (l ledger) done(q impl.Ask) ledger {
	after := maps.Clone(l)
	switch q.Kind {
	case impl.AskCreate:
		after[q.Path] = l[q.Path]
	case impl.AskAppend:
		after[q.Path] += q.Text
	case impl.AskMove, impl.AskDrop:
		for p, text := range l {
			if !underPath(p, q.Path) {
				continue
			}
			delete(after, p)
			if q.Kind == impl.AskMove {
				after[q.To+strings.TrimPrefix(p, q.Path)] = text
			}
		}
	}
	return after
}

// tells asks whether the files of a tree are those of the ledger, each as long as what was written.
func (l ledger) tells(tree impl.Tree) bool {
	files := filesOf(tree)
	for _, node := range files {
		if text, there := l[plainTold(tree, node.Id).Path]; !there || len(text) != node.Len {
			return false
		}
	}
	return len(files) == len(l)
}

// watched is a life that goes on event by event, with a ledger beside it; cut is the ledger with an
// ask that was cut, as long as nobody knows whether it is there.
type watched struct {
	t       *testing.T
	events  []impl.Event
	now     impl.World
	written ledger
	cut     ledger
	counts  map[string]int
}

func watch(t *testing.T, counts map[string]int) *watched {
	return &watched{t: t, now: plainWorldNew(), written: ledger{}, counts: counts}
}

func (l *watched) then(e impl.Event) {
	l.t.Helper()
	was := l.now
	l.events = append(l.events, e)
	l.now = plainStep(was, e)
	code, told := l.now.Codes[len(l.events)-1], l.now.Told[len(l.events)-1]
	switch {
	case e.Kind == impl.EvAsk && code == 0 && e.Ask.Kind == impl.AskRead:
		if text, there := l.written[e.Ask.Path]; told != text || !there {
			l.t.Fatalf("%s is read as %q, and was written as %q, %v", e.Ask.Path, told, text, there)
		}
		l.counts["read"]++
	case e.Kind == impl.EvAsk && code == 0:
		l.written = l.written.done(e.Ask)
		l.wantBehindAFall()
	case e.Kind == impl.EvAsk && was.Server.Up && !l.now.Server.Up:
		l.cut = l.written.done(e.Ask)
	case e.Kind == impl.EvRise && code == 0 && l.cut != nil:
		l.settle()
	}
	if e.Kind == impl.EvAsk && e.Ask.Kind == impl.AskDrop && code == 0 {
		l.wantDropped(was.Server.Tree, e.Ask.Path)
	}
	l.wantTruths()
}

// settle asks what a cut ask has left: all of it or nothing.
func (l *watched) settle() {
	l.t.Helper()
	switch {
	case l.written.tells(l.now.Server.Tree):
		l.counts["cut, and not there, or of no file"]++
	case l.cut.tells(l.now.Server.Tree):
		l.written = l.cut
		l.counts["cut, and there"]++
	default:
		l.t.Fatalf("behind a cut ask the tree is %s, want %q or %q", inShort(l.now.Server.Tree), l.written, l.cut)
	}
	l.cut = nil
}

// wantBehindAFall asks whether what was answered is there when the server falls now, and rises.
func (l *watched) wantBehindAFall() {
	l.t.Helper()
	fell := l.now
	fell.Server.Up, fell.Server.Leases = false, nil
	if !impl.Recovered(fell.Server) {
		l.t.Fatalf("fallen, it is not recovered: %s", tellServer(fell.Server))
	}
	risen, ok := impl.Restart(fell.Server)
	if !ok || !sameTree(risen.Tree, l.now.Server.Tree) || !l.written.tells(risen.Tree) {
		l.t.Fatalf("behind a fall it is %v, %s, want %q", ok, tellServer(risen), l.written)
	}
}

func (l *watched) wantDropped(was impl.Tree, p string) {
	l.t.Helper()
	groups := impl.GroupsOf(was, impl.FindPath(was, p))
	for _, h := range l.now.Hosts {
		left := slices.ContainsFunc(h.Units, func(u impl.Unit) bool { return slices.Contains(groups, u.Group) })
		if left && h.Up {
			l.t.Fatalf("%s is dropped, and its groups %d are on %s", p, groups, tellHost(h))
		}
		if left {
			l.counts["left on a host that is down"]++
		}
	}
	if len(groups) > 0 {
		l.counts["dropped"]++
	}
}

// wantTruths is what must be so behind each event.
func (l *watched) wantTruths() {
	l.t.Helper()
	if !l.written.tells(l.now.Server.Tree) {
		l.t.Fatalf("behind %s the tree is %s, want %q", inShort(l.events[len(l.events)-1]), inShort(l.now.Server.Tree), l.written)
	}
	for p, text := range l.written {
		written, there := impl.WrittenOf(l.now, p)
		if read, ok := impl.TextOf(l.now, p); written != text || !there || ok && read != text || !impl.TrueOrNot(l.now, p) {
			l.t.Fatalf("%s is told as %q, %v, and read as %q, %v; it was written as %q", p, written, there, read, ok, text)
		}
	}
	got := verdictOf(l.now)
	if !got.sound || !got.recovered || got.enough && !got.allRead {
		l.t.Fatalf("behind %s the verdict is %+v, of %s", inShort(l.events[len(l.events)-1]), got, tellWorld(l.now))
	}
	if own := plainVerdict(l.now); got != own {
		l.t.Fatalf("behind %s the verdict is %+v, want %+v, of %s", inShort(l.events[len(l.events)-1]), got, own, tellWorld(l.now))
	}
	l.counts[fmt.Sprintf("enough %v, all read %v, Up %v", got.enough, got.allRead, l.now.Server.Up)]++
}

func wantCounts(t *testing.T, counts map[string]int, least map[string]int) {
	t.Helper()
	for what, count := range least {
		if counts[what] < count {
			t.Errorf("too few: %s, of %v", what, counts)
		}
	}
}

// harshEvent draws an event, now and then one by which a host is lost, or a drop of a file by
// one who may drop it.
func (d *draw) harshEvent(w impl.World) impl.Event {
	files := filesOf(w.Server.Tree)
	switch {
	case d.below(9) == 0:
		return impl.Event{Kind: []int{impl.EvHostDown, impl.EvHostDown, impl.EvLose, impl.EvSpoil}[d.below(4)], Host: 1 + d.below(7), At: d.below(40)}
	case len(files) == 0 || d.below(30) > 0:
		return d.event(w)
	}
	p := plainTold(w.Server.Tree, files[d.below(len(files))].Id).Path
	return evDrop(max(1, plainHolder(w.Server.Leases, p)), p)
}

// In a drawn life what is read is what was written, or nothing is; it is read when enough is left;
// what was answered is there behind each fall.
func TestTruthsOfDrawnLives(t *testing.T) {
	d := draw(190)
	counts := map[string]int{}
	for range 160 {
		l := watch(t, counts)
		l.then(evSchema("/", 1+d.below(3)))
		for len(l.events) < 60 {
			l.then(d.harshEvent(l.now))
		}
		mustRun(t, "a watched life", l.events)
		mustRun(t, "a watched life's beginning", l.events[:d.below(60)])
	}
	wantCounts(t, counts, map[string]int{
		"read": 300, "dropped": 50, "left on a host that is down": 30, "cut, and there": 10, "cut, and not there, or of no file": 50,
		"enough true, all read true, Up true": 5000, "enough true, all read true, Up false": 200,
		"enough false, all read false, Up true": 300, "enough false, all read false, Up false": 15,
	})
}

// healed are the events by which the server and all hosts are Up again, and what can be is mended.
func healed(w impl.World) []impl.Event {
	var events []impl.Event
	if !w.Server.Up {
		events = append(events, evOf(impl.EvRise))
	}
	for _, h := range w.Hosts {
		if !h.Up {
			events = append(events, evHost(impl.EvHostUp, h.Id))
		}
	}
	return append(events, evOf(impl.EvMend))
}

// hostLosses are the ways in which a host is lost with all that it has.
func hostLosses() map[string]func(h impl.Host) impl.Host {
	return map[string]func(h impl.Host) impl.Host{
		"down": downHost,
		"lost": func(h impl.Host) impl.Host { h.Units = nil; return h },
		"spoilt": func(h impl.Host) impl.Host {
			h = cloneHost(h)
			for i, u := range h.Units {
				h.Units[i].Text = turned(u.Text, i%len(u.Text), 1)
			}
			return h
		},
	}
}

// wantReadWithout asks for each file whose groups have all their units, whether it is read without
// these hosts, when they are no more than its schema has sums.
func (l *watched) wantReadWithout(lost []int) {
	l.t.Helper()
	for what, lose := range hostLosses() {
		w := l.now
		w.Hosts = slices.Clone(w.Hosts)
		for _, host := range lost {
			w.Hosts[host-1] = lose(w.Hosts[host-1])
		}
		for _, node := range filesOf(w.Server.Tree) {
			c, _ := schemaFor(node.Schema)
			p := plainTold(w.Server.Tree, node.Id).Path
			whole := !slices.ContainsFunc(node.Pieces, func(piece impl.Piece) bool { return impl.LeftOf(l.now.Hosts, c.s, piece.Group) < c.all() })
			text, ok := impl.TextOf(w, p)
			if ok && text != l.written[p] || !ok && whole && len(lost) <= c.sums {
				l.t.Fatalf("without the hosts %d, which are %s, %s of schema %d is read as %q, %v, and was written as %q", lost, what, p, c.s, text, ok, l.written[p])
			}
			if whole && len(node.Pieces) > 0 {
				l.counts[fmt.Sprintf("schema %d without %d, read %v", c.s, len(lost), ok)]++
			}
		}
		if !impl.SoundWorld(w) {
			l.t.Fatalf("without the hosts %d, which are %s, it is not sound: %s", lost, what, tellWorld(w))
		}
	}
}

// When all is mended, as many hosts may be lost as a schema has sums.
func TestHostsThatAreLostBehindLives(t *testing.T) {
	d := draw(191)
	counts := map[string]int{}
	for life := range 60 {
		l := watch(t, counts)
		l.then(evSchema("/", 1+life%3))
		for len(l.events) < 40 {
			l.then(d.event(l.now))
		}
		for _, e := range healed(l.now) {
			l.then(e)
		}
		for one := 1; one <= impl.MaxHosts; one++ {
			l.wantReadWithout([]int{one})
			for two := one + 1; two <= impl.MaxHosts; two++ {
				l.wantReadWithout([]int{one, two})
				l.wantReadWithout([]int{one, two, 1 + two%7}[:2+d.below(2)])
			}
		}
		for _, host := range []int{1 + d.below(7), 1 + d.below(7)} {
			l.then(evHost(impl.EvLose, host))
			for p := range l.written {
				if len(l.events) < 60 {
					l.then(evRead(p))
				}
			}
		}
		mustRun(t, "a life with hosts lost", l.events)
	}
	wantCounts(t, counts, map[string]int{
		"schema 1 without 1, read true": 150, "schema 2 without 1, read true": 150, "schema 2 without 2, read true": 500,
		"schema 3 without 1, read true": 100, "schema 3 without 2, read true": 400, "schema 1 without 2, read false": 150,
		"schema 2 without 3, read false": 70, "schema 3 without 3, read false": 70, "read": 100,
	})
}

// A life with each kind of event, of which it is known behind each how much is left.
func TestTruthsOfALifeThatIsWrittenOut(t *testing.T) {
	all, few := soundVerdict(), verdict{false, false, true, true}
	long := drawn(250, 60)
	s := storyOf(t, "a life")
	l := ledger{}
	for _, step := range []struct {
		e    impl.Event
		code int
		want verdict
	}{
		{evMake("/d"), 0, all},
		{evSchema("/d", 2), 0, all},
		{evCreate(1, "/d/f"), 0, all},
		{evCreate(2, "/g"), 0, all},
		{evAppend(1, "/d/f", long), 0, all},
		{evAppend(2, "/g", "hall"), 0, all},
		{evTick(4), 0, all},
		{evAppend(1, "/d/f", "and "), 0, all},
		{evAppend(1, "/d/f", "door"), 0, all},
		{evAppend(3, "/d/f", "never"), impl.WrongHolder, all},
		{evClose(1, "/d/f"), 0, all},
		{evReopen(3, "/d/f"), 0, all},
		{evAppend(3, "/d/f", "!"), 0, all},
		// Each group of /g is of two units and a sum; one lost host is enough to need it.
		{evHost(impl.EvHostDown, 3), 0, all},
		{evHost(impl.EvLose, 4), 0, few},
		{evHost(impl.EvHostUp, 3), 0, all},
		{evOf(impl.EvMend), 0, all},
		{evSpoil(3, 0), 0, all},
		{evSpoil(3, 1), 0, all},
		{evOf(impl.EvFall), 0, all},
		{evAppend(3, "/d/f", "never"), impl.Down, all},
		{evHost(impl.EvLose, 2), 0, all},
		{evOf(impl.EvRise), 0, all},
		{evHost(impl.EvLose, 3), 0, few},
		{evOf(impl.EvMend), 0, few},
		{evMove(9, "/d", "/e"), 0, few},
		{evDrop(9, "/e/g"), impl.NotFound, few},
		{evDrop(9, "/g"), 0, all},
		{cutWith(evMake("/never"), 0), impl.Down, all},
		{evOf(impl.EvRise), 0, all},
		{evDrop(9, "/e"), 0, all},
	} {
		s.then(step.e, step.code, "")
		if step.code == 0 && step.e.Kind == impl.EvAsk {
			l = l.done(step.e.Ask)
		}
		what := fmt.Sprintf("%s, behind %s", s.what, inShort(step.e))
		wantVerdict(t, what, s.now, step.want)
		if !l.tells(s.now.Server.Tree) {
			t.Errorf("%s: the tree is %s, want %q", what, inShort(s.now.Server.Tree), l)
		}
		for p, text := range l {
			wantWrittenOf(t, what, s.now, p, text, true)
			wantTrue(t, what, s.now, p, true)
			if step.want.allRead {
				wantText(t, what, s.now, p, text)
			}
		}
		for _, p := range []string{"/d", "/e", "/never", "/"} {
			wantFalseOfNone(t, what, s.now, p)
		}
	}
	if len(l) != 0 {
		t.Errorf("at the end there is %q", l)
	}
}

// Whatever is left of a cut ask, all is sound, and the ask is there whole or not at all.
func TestTruthsOfAsksThatAreCut(t *testing.T) {
	for what, life := range cutLives() {
		s := storyOf(t, what, life.ahead...)
		l := ledger{}
		for _, e := range life.ahead {
			if e.Kind == impl.EvAsk {
				l = l.done(e.Ask)
			}
		}
		log, _ := impl.FileAt(s.now.Server.Disk, impl.NameLog)
		added := len(logText(plainEditOf(life.e.Ask)))
		for _, left := range []int{0, len(log) - 1, len(log), len(log) + 1, len(log) + added/2, len(log) + added - 1, len(log) + added, math.MaxInt} {
			cut := s.aside(fmt.Sprintf("cut, %d left", left))
			cut.then(cutWith(life.e, left), impl.Down, "")
			written := l
			for _, when := range []string{"fallen", "risen", "fallen again", "risen again", "mended, or nothing to mend"} {
				what := cut.what + ", " + when
				wantVerdict(t, what, cut.now, soundVerdict())
				if !written.tells(cut.now.Server.Tree) {
					t.Fatalf("%s: the tree is %s, want %q", what, inShort(cut.now.Server.Tree), written)
				}
				for p, text := range written {
					wantText(t, what, cut.now, p, text)
					wantWrittenOf(t, what, cut.now, p, text, true)
				}
				if left >= len(log)+added {
					written = l.done(life.e.Ask)
				}
				switch when {
				case "fallen", "fallen again":
					cut.then(evOf(impl.EvRise), 0, "")
				case "risen":
					cut.then(evOf(impl.EvFall), 0, "")
				case "risen again":
					cut.nothing(evOf(impl.EvMend), 1)
				}
			}
		}
	}
}

// Of a server that fell in a record the tree may be another one than that which is recovered.
func TestTreesOfServersThatFell(t *testing.T) {
	s := storyOf(t, "a server that fell", evCreate(1, "/f"), evAppend(1, "/f", "hall"))
	lost := s.aside("its record is lost")
	s.then(cutWith(evAppend(1, "/f", "door"), math.MaxInt), impl.Down, "")
	tree, _, _, ok := impl.Recover(s.now.Server.Disk)
	if !ok || sameTree(tree, s.now.Server.Tree) {
		t.Fatalf("%v, the tree is %s, and what is recovered is %s", ok, inShort(s.now.Server.Tree), inShort(tree))
	}
	wantVerdict(t, "not Up", s.now, soundVerdict())
	wantWrittenOf(t, "not Up", s.now, "/f", "hall", true)
	up := cloneWorld(s.now)
	up.Server.Up = true
	wantVerdict(t, "Up as it was", up, verdict{true, true, false, false})
	up.Server.Tree = tree
	wantVerdict(t, "Up as it is recovered", up, soundVerdict())
	wantWrittenOf(t, "Up as it is recovered", up, "/f", "halldoor", true)
	s.then(evOf(impl.EvRise), 0, "")
	wantVerdict(t, "risen", s.now, soundVerdict())
	s.reads("/f", "halldoor")
	// The units of a cut append whose record is lost stay, and are nobody's.
	lost.then(cutWith(evAppend(1, "/f", "door"), 0), impl.Down, "")
	lost.then(evOf(impl.EvRise), 0, "")
	wantVerdict(t, lost.what, lost.now, soundVerdict())
	wantWrittenOf(t, lost.what, lost.now, "/f", "hall", true)
	if size := impl.SizeOf(lost.now.Sizes, 2); size.Text != "door" {
		t.Errorf("%s: the Size is %+v", lost.what, size)
	}
}

// broken draws a change of a world: of its sizes, its units, its tree, or its log.
func (d *draw) broken(w impl.World) impl.World {
	w = cloneWorld(w)
	switch d.below(8) {
	case 0, 1:
		d.breakSizes(&w)
	case 2, 3:
		d.breakUnits(&w)
	case 4:
		d.breakDisk(&w.Server.Disk)
	case 5:
		w.Server.Up = !w.Server.Up
		if d.below(3) > 0 {
			d.breakTree(&w.Server.Tree)
		}
	case 6:
		d.breakTree(&w.Server.Tree)
	case 7:
		return w
	}
	return w
}

func (d *draw) breakSizes(w *impl.World) {
	if len(w.Sizes) == 0 {
		w.Sizes = append(w.Sizes, impl.Size{Group: 1 + d.below(5), Text: d.text(d.below(5))})
		return
	}
	at := d.below(len(w.Sizes))
	size := &w.Sizes[at]
	switch d.below(6) {
	case 0:
		w.Sizes = slices.Delete(w.Sizes, at, at+1)
	case 1:
		size.Text = d.text(len(size.Text))
	case 2:
		size.Text += d.text(1)
	case 3:
		size.Text = size.Text[:len(size.Text)-1]
	case 4:
		w.Sizes = append(w.Sizes, impl.Size{Group: size.Group, Text: []string{size.Text, "", d.text(len(size.Text))}[d.below(3)]})
	case 5:
		size.Group += d.below(3) - 1
	}
}

func (d *draw) breakUnits(w *impl.World) {
	h := &w.Hosts[d.below(len(w.Hosts))]
	if len(h.Units) == 0 {
		h.Up = !h.Up
		return
	}
	u := &h.Units[d.below(len(h.Units))]
	switch d.below(6) {
	case 0:
		*u = unitOf(u.Group, u.Index, d.text(len(u.Text)))
	case 1:
		*u = unitOf(u.Group, u.Index, u.Text+"x")
	case 2:
		u.Sum++
	case 3:
		h.Units = nil
	case 4:
		u.Index = d.below(6)
	case 5:
		slices.Reverse(w.Hosts)
	}
}

func (d *draw) breakDisk(disk *impl.Disk) {
	if len(disk.Files) == 0 {
		disk.Files = append(disk.Files, file("log", d.logPiece(), 0))
		return
	}
	log := &disk.Files[0]
	switch d.below(6) {
	case 0:
		log.Text = log.Text[:d.below(len(log.Text))]
		log.Kept = min(log.Kept, len(log.Text))
	case 1:
		log.Text = turned(log.Text, d.below(len(log.Text)), 1)
	case 2:
		log.Text += d.logPiece()
	case 3:
		log.Kept = []int{-1, len(log.Text) + 1, math.MaxInt}[d.below(3)]
	case 4:
		disk.Files = append(disk.Files, file([]string{"log+", "log", "zz", ""}[d.below(4)], "left", 0))
	case 5:
		disk.Files = nil
	}
}

func (d *draw) breakTree(tree *impl.Tree) {
	if len(tree.Nodes) == 0 {
		tree.Nodes = append(tree.Nodes, fileNode(1, 0, "", 1, 4))
	}
	node := &tree.Nodes[d.below(len(tree.Nodes))]
	switch d.below(9) {
	case 0:
		tree.Next += d.below(5) - 2
	case 1:
		tree.Nodes = tree.Nodes[:d.below(len(tree.Nodes))]
	case 2:
		node.Name = d.pathName()
	case 3:
		node.Schema = d.below(5)
	case 4:
		node.Writer = d.below(12)
	case 5:
		node.Dir = !node.Dir
	case 6:
		node.Quota += d.below(20)
	default:
		if len(node.Pieces) == 0 {
			node.Parent = d.below(4)
			return
		}
		piece, more := &node.Pieces[d.below(len(node.Pieces))], d.below(5)-2
		if d.below(3) == 0 {
			piece.Group += more
			return
		}
		piece.Len += more
		if d.below(3) > 0 {
			node.Len += more
		}
	}
}

// Worlds of drawn lives with something changed in them are told as the document's words have it.
func TestTruthsOfWorldsThatAreBroken(t *testing.T) {
	d := draw(192)
	told := map[verdict]int{}
	untrue := 0
	for range 60 {
		w := plainStep(plainWorldNew(), evSchema("/", 1+d.below(3)))
		for range 59 {
			w = plainStep(w, d.event(w))
		}
		for range 40 {
			one := d.broken(w)
			if d.below(4) == 0 {
				one = d.broken(one)
			}
			told[wantAsPlainTruths(t, "a broken world", one)]++
			for _, p := range pathsOfWorld(one) {
				if !impl.TrueOrNot(one, p) {
					untrue++
					break
				}
			}
		}
	}
	for want, least := range map[verdict]int{
		{true, true, true, true}: 500, {true, true, true, false}: 150, {true, true, false, false}: 150, {false, false, true, true}: 50,
		{true, false, true, false}: 10, {false, false, false, false}: 10, {false, false, true, false}: 10, {true, false, false, false}: 10,
	} {
		if told[want] < least {
			t.Errorf("just %d worlds had the verdict %+v: %v", told[want], want, told)
		}
	}
	if untrue < 100 {
		t.Errorf("just %d worlds had a file that reads otherwise", untrue)
	}
}

// Trees that are not right have files, too: what is written to these, and whether enough is left of
// them, is told, but their paths are not, so that they are not all read, nor is the world sound.
func TestTruthsOfTreesThatAreNotRight(t *testing.T) {
	hosts := upHosts(7)
	for _, c := range schemas() {
		hosts = mustWrite(t, "hosts", hosts, c.s, c.s, drawn(260, c.size()))
	}
	sizes := []impl.Size{{Group: 1, Text: drawn(260, 16)}, {Group: 2, Text: drawn(260, 24)}, {Group: 3, Text: drawn(260, 32)}}
	for what, tree := range treesThatAreNotRight() {
		for _, up := range []bool{true, false} {
			for _, w := range []impl.World{
				{Server: impl.Server{Tree: tree, Up: up}, Hosts: hosts, Sizes: sizes},
				{Server: impl.Server{Tree: tree, Up: up}, Hosts: upHosts(7), Sizes: sizes[:1]},
				{Server: impl.Server{Tree: tree, Up: up}},
			} {
				got := wantAsPlainTruths(t, what, w)
				if got.sound || got.recovered == up || got.allRead != (len(filesOf(tree)) == 0) {
					t.Errorf("%s: the verdict is %+v", what, got)
				}
			}
		}
	}
	// Its file is found, read and told by its path all the same.
	w := withTree(hallOf(t, 2, 24, 3), func(tree *impl.Tree) { tree.Next = 2 })
	text := w.Sizes[0].Text + w.Sizes[1].Text
	wantText(t, "Next is too little", w, "/hall", text)
	wantWrittenOf(t, "Next is too little", w, "/hall", text, true)
	wantTrue(t, "Next is too little", w, "/hall", true)
	wantVerdict(t, "Next is too little", w, verdict{true, false, true, false})
	w.Sizes[1].Text = "???"
	wantTrue(t, "Next is too little, read otherwise", w, "/hall", false)
	// Of a file of no schema no unit is asked for.
	for _, s := range append(wrongSchemas(), farNumbers()...) {
		odd := withNode(hallOf(t, 1, 16), 1, func(node *impl.Inode) { node.Schema = s })
		odd.Server.Up = true
		if _, right := schemaFor(s); !right {
			wantVerdict(t, fmt.Sprintf("the schema %d", s), odd, verdict{true, false, false, false})
			wantWrittenOf(t, "no schema", odd, "/hall", odd.Sizes[0].Text, true)
			wantTrue(t, "no schema", odd, "/hall", true)
		}
	}
	// Two of one path: the first one is told.
	two := impl.World{Server: impl.Server{Tree: treeOf(rootNode(), fileNode(2, 1, "hall", 1), fileNode(3, 1, "hall", 1, 16))}, Hosts: hosts, Sizes: sizes}
	two.Server.Tree.Nodes[2].Pieces[0].Group = 1
	wantWrittenOf(t, "the first of two", two, "/hall", "", true)
	slices.Reverse(two.Server.Tree.Nodes)
	wantWrittenOf(t, "the first of two, turned about", two, "/hall", drawn(260, 16), true)
	file := impl.World{Server: impl.Server{Tree: treeOf(fileNode(1, 0, "", 1, 16))}, Hosts: hosts, Sizes: sizes}
	file.Server.Tree.Nodes[0].Pieces[0].Group = 1
	wantWrittenOf(t, "a root that is a file", file, "/", drawn(260, 16), true)
	wantVerdict(t, "a root that is a file", file, verdict{true, false, true, false})
}

func TestTruthsOfHostsThatAreNotRight(t *testing.T) {
	w := hallOf(t, 2, 24, 3)
	enough := 0
	for what, h := range wrongHosts() {
		for at := range w.Hosts {
			one := cloneWorld(w)
			one.Hosts[at] = h
			if wantAsPlainTruths(t, what, one).enough {
				enough++
			}
			one = cloneWorld(w)
			one.Hosts[at].Id = h.Id
			one.Hosts[at].Units = append(one.Hosts[at].Units, h.Units...)
			wantAsPlainTruths(t, what+" beside its units", one)
		}
		wantAsPlainTruths(t, what+" alone", impl.World{Server: w.Server, Sizes: w.Sizes, Hosts: []impl.Host{h}})
		wantAsPlainTruths(t, what+" ahead", impl.World{Server: w.Server, Sizes: w.Sizes, Hosts: append([]impl.Host{h, h}, w.Hosts...)})
	}
	if enough < 50 {
		t.Errorf("just %d worlds had enough", enough)
	}
	// Where two hosts have a unit, it is there once, and the first that is got is read.
	twice := cloneWorld(w)
	for at := range twice.Hosts {
		twice.Hosts = append(twice.Hosts, cloneHost(twice.Hosts[at]))
	}
	wantVerdict(t, "each host twice", twice, soundVerdict())
	first := twice.Hosts[0].Units[0]
	twice.Hosts[0].Units[0].Text = turned(first.Text, 0, 1)
	wantVerdict(t, "the first one is spoilt", twice, soundVerdict())
	few := cloneWorld(w)
	few.Hosts = slices.Repeat(few.Hosts[:2], 9)
	wantVerdict(t, "two hosts nine times", few, verdict{false, false, true, true})
}

func TestTruthsOfManyThings(t *testing.T) {
	hosts := mustWrite(t, "hosts", upHosts(3), 1, 1, "0123456789abcdef")
	w := impl.World{Server: impl.Server{Tree: treeOf(rootNode(), fileNode(2, 1, "f", 1))}, Hosts: hosts, Sizes: []impl.Size{{Group: 1, Text: "0123456789abcdef"}}}
	w.Server.Tree.Nodes[1].Pieces = slices.Repeat([]impl.Piece{{Group: 1, Len: 16}}, 4000)
	wantWrittenOf(t, "many pieces", w, "/f", strings.Repeat("0123456789abcdef", 4000), true)
	wantTrue(t, "many pieces", w, "/f", true)
	if got := verdictOf(w); got != (verdict{true, false, true, false}) {
		t.Errorf("many pieces: the verdict is %+v", got)
	}
	nodes := w
	nodes.Server.Tree = manyNodes(3000)
	if got := verdictOf(nodes); got != (verdict{true, false, true, false}) {
		t.Errorf("many nodes: the verdict is %+v", got)
	}
	var sizes []impl.Size
	for n := range 100000 {
		sizes = append(sizes, impl.Size{Group: n % 1000, Text: "text"})
	}
	many := withSizes(hallOf(t, 1, 4), append(sizes, impl.Size{Group: 20, Text: drawn(240, 4)})...)
	wantWrittenOf(t, "many sizes", many, "/hall", drawn(240, 4), true)
	if got := verdictOf(many); got != soundVerdict() {
		t.Errorf("many sizes: the verdict is %+v", got)
	}
	// A log that is full, and has all that a right tree may have.
	text := fullLog(0)
	list, end := plainReadLog(text)
	tree, _ := plainTree(list)
	s := impl.Server{Up: true, Tree: tree, Disk: diskOf(file("log", text, end))}
	wantRecoveredOrNot(t, "a full log", s, true)
	s.Disk.Files[0].Text += "x"
	wantRecoveredOrNot(t, "a log of a byte too many", s, false)
}

// truthsOf is all that the chapter answers of a world and some paths.
func truthsOf(w impl.World, paths []string) string {
	var told strings.Builder
	for _, p := range paths {
		text, ok := impl.WrittenOf(w, p)
		fmt.Fprintf(&told, "%q %v %v; ", text, ok, impl.TrueOrNot(w, p))
	}
	fmt.Fprintf(&told, "%+v", verdictOf(w))
	return told.String()
}

func pathsForMemory() []string {
	return []string{"/hall/door", "/house/door", "/yard", "/hall/room", "/hall", "/", "", "/none"}
}

func TestWrittenOfIsNewMemory(t *testing.T) {
	told := 0
	for what, events := range livesForMemory() {
		w := mustRun(t, what, events)
		for i := range w.Sizes {
			w.Sizes[i].Text = ownText(w.Sizes[i].Text)
		}
		for _, p := range pathsForMemory() {
			text, ok := impl.WrittenOf(w, p)
			again, _ := impl.WrittenOf(w, p)
			if ok && len(text) > 1 {
				wantNewTexts(t, what+", "+p, []string{text, again}, textsOfWorld(w))
				told++
			}
		}
	}
	if told < 10 {
		t.Errorf("just %d texts were told", told)
	}
	// A file of one group, be it short or long, is told in memory of its own, too.
	for length := 2; length <= 32; length++ {
		w := hallOf(t, 3, length)
		w.Sizes[0].Text = ownText(w.Sizes[0].Text)
		text, _ := impl.WrittenOf(w, "/hall")
		wantNewTexts(t, "one group", []string{text}, textsOfWorld(w))
		if text != w.Sizes[0].Text {
			t.Errorf("one group: %q", text)
		}
	}
}

func TestWorldsAreNotWrittenIntoByTruths(t *testing.T) {
	for what, events := range livesForMemory() {
		roomy, whole := roomyWorld(mustRun(t, what, events))
		before := whole()
		truthsOf(roomy, pathsForMemory())
		wantWorld(t, what+", what was handed in", whole(), before)
	}
	for what, tree := range treesThatAreNotRight() {
		w := cloneWorld(storedWorld(t, shed()))
		w.Server.Tree = tree
		roomy, whole := roomyWorld(w)
		before := whole()
		truthsOf(roomy, pathsForMemory())
		wantWorld(t, what+", what was handed in", whole(), before)
	}
}

// Nothing is kept from call to call: what is told of a world hangs on that one alone.
func TestTruthsAreToldAlikeEachTime(t *testing.T) {
	wants := map[string]string{}
	for what, events := range livesForMemory() {
		wants[what] = truthsOf(mustRun(t, what, events), pathsForMemory())
	}
	for range 5 {
		for what, events := range livesForMemory() {
			w, _ := impl.RunWorld(events)
			for _, other := range []impl.World{w, cloneWorld(w)} {
				if got := truthsOf(other, pathsForMemory()); got != wants[what] {
					t.Errorf("%s: %s, want %s", what, got, wants[what])
				}
			}
			scribbleWorld(w)
			truthsOf(w, pathsForMemory())
			if text, ok := impl.WrittenOf(w, "/yard"); ok {
				t.Errorf("%s, written over: %q", what, text)
			}
		}
	}
}

func TestTruthsAreToldAlikeToAllAtOnce(t *testing.T) {
	worlds, wants := map[string]impl.World{}, map[string]string{}
	for what, events := range livesForMemory() {
		worlds[what] = mustRun(t, what, events)
		wants[what] = truthsOf(worlds[what], pathsForMemory())
	}
	var callers sync.WaitGroup
	for range 8 {
		callers.Go(func() {
			for range 5 {
				for what, w := range worlds {
					if got := truthsOf(w, pathsForMemory()); got != wants[what] {
						t.Errorf("%s: at once with others: %s, want %s", what, got, wants[what])
					}
				}
			}
		})
	}
	callers.Wait()
}

func TestNoCallOnTruthsPanics(t *testing.T) {
	far := []int{math.MinInt, math.MinInt + 1, -1, 0, 1, 2, 3, 7, math.MaxInt - 1, math.MaxInt}
	texts := []string{"", "/", "/far", "/far/", "far", "\xff\xfe", allBytes(), strings.Repeat("/a", 10001)}
	for _, a := range far {
		for _, b := range far {
			for _, c := range far {
				file := impl.Inode{Id: a, Parent: b, Name: "far", Schema: c, Quota: a, Len: b, Pieces: []impl.Piece{{Group: b, Len: a}, {Group: c, Len: b}}, Writer: c}
				w := impl.World{
					Server: impl.Server{Up: a%2 == 0, Tree: impl.Tree{Nodes: []impl.Inode{rootNode(), file}, Next: c}, Groups: a, Now: b, Disk: diskOf(impl.File{Name: "log", Text: "far", Kept: c}), Leases: []impl.Lease{{Path: "far", Who: a, Seen: b}}},
					Hosts:  []impl.Host{{Id: a, Up: true, Units: []impl.Unit{{Group: b, Index: a, Sum: c}, unitOf(b, c, "far"), unitOf(c, a, "far")}}, hostOf(b, unitOf(b, 0, "far"), unitOf(b, 1, "far"))},
					Codes:  []int{a}, Sizes: []impl.Size{{Group: b, Text: "far"}, {Group: c}},
				}
				wantAsPlainTruths(t, "far numbers", w)
			}
		}
		w := hallOf(t, 2, 24, 5)
		for field := range 9 {
			odd := withNode(w, 1, func(node *impl.Inode) {
				*[]*int{&node.Id, &node.Parent, &node.Schema, &node.Quota, &node.Len, &node.Pieces[0].Group, &node.Pieces[1].Group, &node.Pieces[0].Len, &node.Pieces[1].Len}[field] = a
			})
			wantAsPlainTruths(t, "a far number in a tree", odd)
		}
		for at := range w.Hosts {
			for i := range w.Hosts[at].Units {
				for field := range 3 {
					odd := cloneWorld(w)
					u := &odd.Hosts[at].Units[i]
					*[]*int{&u.Group, &u.Index, &u.Sum}[field] = a
					wantAsPlainTruths(t, "a far number in a unit", odd)
				}
			}
		}
		sized := cloneWorld(w)
		sized.Sizes[1].Group = a
		wantAsPlainTruths(t, "a far number in a Size", sized)
	}
	for _, p := range append(texts, slices.Collect(maps.Values(textsThatAreNoPaths()))...) {
		for _, w := range []impl.World{{}, impl.WorldNew(), hallOf(t, 1, 16), {Server: impl.Server{Tree: impl.Tree{Nodes: []impl.Inode{{Id: 1, Name: p}, {Id: 2, Parent: 1, Name: p, Pieces: []impl.Piece{{}}}}}}, Sizes: []impl.Size{{Text: p}}, Hosts: []impl.Host{hostOf(1, unitOf(0, 0, p))}}} {
			text, ok := plainWritten(w, p)
			wantWrittenOf(t, "texts of any bytes", w, p, text, ok)
			wantTrue(t, "texts of any bytes", w, p, plainTrue(w, p))
			wantVerdict(t, "texts of any bytes", w, plainVerdict(w))
		}
		w := hallOf(t, 1, 16)
		w.Sizes[0].Text = p
		wantWrittenOf(t, "a Size of any bytes", w, "/hall", p, true)
		wantTrue(t, "a Size of any bytes", w, "/hall", false)
		wantVerdict(t, "a Size of any bytes", w, verdict{true, true, true, false})
		disk := impl.Server{Up: true, Tree: impl.TreeNew(), Disk: diskOf(file("log", p, 0))}
		wantRecoveredOrNot(t, "a log of any bytes", disk, len(p) <= impl.MaxText)
	}
}
