package tests

import (
	"fmt"
	"math"
	"slices"
	"strings"
	"sync"
	"testing"
	"unsafe"

	"loop.example/g00197/impl"
)

// askRule is what the document says of the asks of a kind: whether Path may be `/`; whether To is a
// path with a name; the least and the greatest Num, and length of Text.
type askRule struct {
	kind      int
	top, to   bool
	num, text [2]int
}

func askRules() []askRule {
	return []askRule{
		{kind: 1},
		{kind: 2},
		{kind: 3, text: [2]int{1, 60}},
		{kind: 4},
		{kind: 5, to: true},
		{kind: 6},
		{kind: 7},
		{kind: 8, top: true, num: [2]int{1, 3}},
		{kind: 9, top: true, num: [2]int{0, 1000}},
		{kind: 10},
	}
}

func (rule askRule) allows(q impl.Ask) bool {
	path := isNamedPath(q.Path) || rule.top && q.Path == "/"
	to := q.To == ""
	if rule.to {
		to = isNamedPath(q.To)
	}
	return q.Kind == rule.kind && path && to && between(q.Who, [2]int{1, 9}) && between(q.Num, rule.num) && between(len(q.Text), rule.text)
}

// right is a right ask of the kind, with the least Num and Text.
func (rule askRule) right() impl.Ask {
	q := impl.Ask{Kind: rule.kind, Who: 3, Path: "/hall/door", Text: strings.Repeat("t", rule.text[0]), Num: rule.num[0]}
	if rule.to {
		q.To = "/gate"
	}
	return q
}

func plainAskOk(q impl.Ask) bool {
	return slices.ContainsFunc(askRules(), func(rule askRule) bool { return rule.allows(q) })
}

func plainEditOf(q impl.Ask) impl.Edit {
	switch q.Kind {
	case 1:
		return editMake(q.Path)
	case 2:
		return editCreate(q.Path, q.Who)
	case 3:
		return editAdd(q.Path, len(q.Text))
	case 4:
		return editClose(q.Path)
	case 5:
		return editMove(q.Path, q.To)
	case 6:
		return editDrop(q.Path)
	case 8:
		return editSchema(q.Path, q.Num)
	case 9:
		return editQuota(q.Path, q.Num)
	case 10:
		return editOpen(q.Path, q.Who)
	}
	return impl.Edit{}
}

func plainActs(d impl.Disk, list []impl.Act) (impl.Disk, bool) {
	for _, a := range list {
		after, ok := plainAct(d, a)
		if !ok {
			return d, false
		}
		d = after
	}
	return d, true
}

func plainCommit(s impl.Server, e impl.Edit) (impl.Server, int) {
	if !s.Up {
		return s, 11
	}
	tree, groups, code := plainApply(s.Tree, e, s.Groups)
	if code != 0 {
		return s, code
	}
	disk, ok := plainActs(s.Disk, []impl.Act{add("log", logText(e)), act(impl.ActKeep, "log")})
	if !ok || groups > 99000 {
		return s, 11
	}
	s.Tree, s.Groups, s.Disk = tree, groups, disk
	return s, 0
}

func plainRestart(s impl.Server) (impl.Server, bool) {
	if s.Up || !impl.DiskOk(s.Disk) {
		return s, false
	}
	told := plainRecover(s.Disk)
	disk, ok := plainActs(s.Disk, told.acts)
	if !ok {
		return s, false
	}
	risen, code := plainCommit(impl.Server{Up: true, Tree: told.tree, Groups: told.groups, Disk: disk, Now: s.Now}, editBoot())
	if code != 0 {
		return s, false
	}
	return risen, true
}

// plainMayWrite looks for a lease that bars the ask, and for one that it needs.
func plainMayWrite(s impl.Server, q impl.Ask) int {
	barred := false
	switch q.Kind {
	case 3, 4, 10:
		holder := plainHolder(s.Leases, q.Path)
		barred = holder > 0 && holder != q.Who || holder == 0 && q.Kind == 3
	case 5, 6:
		barred = slices.ContainsFunc(s.Leases, func(l impl.Lease) bool {
			return l.Who > 0 && l.Who != q.Who && underPath(l.Path, q.Path)
		})
	}
	if barred {
		return 6
	}
	return 0
}

func sameServer(a, b impl.Server) bool {
	return a.Up == b.Up && sameTree(a.Tree, b.Tree) && a.Groups == b.Groups && sameDisk(a.Disk, b.Disk) && slices.Equal(a.Leases, b.Leases) && a.Now == b.Now
}

func cloneServer(s impl.Server) impl.Server {
	s.Tree = cloneTree(s.Tree)
	s.Disk.Files = slices.Clone(s.Disk.Files)
	s.Leases = slices.Clone(s.Leases)
	return s
}

func tellServer(s impl.Server) string {
	return fmt.Sprintf("Up %v, tree %s, Groups %d, %.300s, %s, Now %d", s.Up, inShort(s.Tree), s.Groups, tell(s.Disk), tellLeases(s.Leases), s.Now)
}

func fallen(s impl.Server) impl.Server {
	s.Up = false
	return s
}

// withLog is a server that is Up, as a log of these records tells of it.
func withLog(list ...impl.Edit) impl.Server {
	tree, groups := plainTree(list)
	return impl.Server{Up: true, Tree: tree, Groups: groups, Disk: logAlone(logText(list...)), Now: 17}
}

// heldServer has a lease of each kind beside its tree.
func heldServer() impl.Server {
	s := withLog(logLife()...)
	s.Disk.Files = append(s.Disk.Files, file("other", "words", 3))
	s.Leases = []impl.Lease{leaseOf("/d/f", 1, 10), leaseOf("/e/h/g", 2, 16)}
	return s
}

func wantServer(t *testing.T, what string, got, want impl.Server) {
	t.Helper()
	if !sameServer(got, want) {
		t.Fatalf("%s: %s, want %s", what, tellServer(got), tellServer(want))
	}
}

func wantAsk(t *testing.T, what string, q impl.Ask, want bool) {
	t.Helper()
	if impl.AskOk(q) != want {
		t.Errorf("%s: AskOk is %v of %s", what, !want, inShort(q))
	}
	if plainAskOk(q) != want {
		t.Errorf("%s: the test's own AskOk is %v of %s", what, !want, inShort(q))
	}
	wantEditOf(t, what, q, plainEditOf(q))
}

func wantEditOf(t *testing.T, what string, q impl.Ask, want impl.Edit) {
	t.Helper()
	if e := impl.EditOf(q); e != want {
		t.Errorf("%s: EditOf %s = %s, want %s", what, inShort(q), inShort(e), inShort(want))
	}
}

// mustCommit commits a record: the tree is that of Apply, Groups as GroupsAfter, the disk that behind
// LogActs, and all else as it was.
func mustCommit(t *testing.T, what string, s impl.Server, e impl.Edit) impl.Server {
	t.Helper()
	what = fmt.Sprintf("%s, %s", what, inShort(e))
	before := cloneServer(s)
	got, code := impl.Commit(s, e)
	if code != 0 {
		t.Fatalf("%s: the code %d of %s", what, code, tellServer(s))
	}
	want := cloneServer(s)
	want.Tree, _ = impl.Apply(s.Tree, e, s.Groups)
	want.Groups = impl.GroupsAfter(s.Tree, e, s.Groups)
	want.Disk, _ = impl.DoActs(s.Disk, recordActs(t, e))
	wantServer(t, what, got, want)
	own, code := plainCommit(s, e)
	if code != 0 {
		t.Fatalf("%s: the test's own code is %d", what, code)
	}
	wantServer(t, what+", by the test's own", got, own)
	wantServer(t, what+", what was handed in", s, before)
	return got
}

// wantNotCommitted has the code, and the server as it is.
func wantNotCommitted(t *testing.T, what string, s impl.Server, e impl.Edit, want int) {
	t.Helper()
	before := cloneServer(s)
	got, code := impl.Commit(s, e)
	if code != want {
		t.Errorf("%s: Commit of %s has the code %d, want %d: %s", what, inShort(e), code, want, tellServer(s))
	}
	wantServer(t, what+", not committed", got, before)
	wantServer(t, what+", what was handed in", s, before)
}

// mustRestart restarts a server: it is Up as its log tells, with a boot more, without leases.
func mustRestart(t *testing.T, what string, s impl.Server) impl.Server {
	t.Helper()
	before := cloneServer(s)
	got, ok := impl.Restart(s)
	if !ok {
		t.Fatalf("%s: no restart of %s", what, tellServer(s))
	}
	tree, groups, acts, _ := impl.Recover(s.Disk)
	disk, _ := impl.DoActs(s.Disk, append(acts, recordActs(t, editBoot())...))
	wantServer(t, what, got, impl.Server{Up: true, Tree: tree, Groups: groups + 20, Disk: disk, Now: s.Now})
	own, _ := plainRestart(s)
	wantServer(t, what+", by the test's own", got, own)
	wantServer(t, what+", what was handed in", s, before)
	return got
}

func wantNoRestart(t *testing.T, what string, s impl.Server) {
	t.Helper()
	before := cloneServer(s)
	got, ok := impl.Restart(s)
	if ok {
		t.Errorf("%s: a restart of %s", what, tellServer(before))
	}
	wantServer(t, what+", not restarted", got, before)
	wantServer(t, what+", what was handed in", s, before)
}

// wantBehindARestart is told what a server has committed: all of it is there, and nothing is lost.
func wantBehindARestart(t *testing.T, what string, s impl.Server) impl.Server {
	t.Helper()
	got := mustRestart(t, what, fallen(s))
	if !sameTree(got.Tree, s.Tree) || got.Groups != s.Groups+20 || len(got.Leases) != 0 || got.Now != s.Now || !got.Up {
		t.Fatalf("%s: of %s a restart makes %s", what, tellServer(s), tellServer(got))
	}
	return got
}

func wantMayWrite(t *testing.T, what string, s impl.Server, q impl.Ask, want int) {
	t.Helper()
	before := cloneServer(s)
	if code := impl.MayWrite(s, q); code != want {
		t.Errorf("%s: MayWrite of %s is %d, want %d: %s", what, inShort(q), code, want, tellLeases(s.Leases))
	}
	wantServer(t, what+", what was handed in", s, before)
}

// wantAsPlainServer asks all that the chapter answers of a server, each against the test's own.
func wantAsPlainServer(t *testing.T, what string, s impl.Server, e impl.Edit, q impl.Ask) (int, bool) {
	t.Helper()
	before := cloneServer(s)
	got, code := impl.Commit(s, e)
	want, wantCode := plainCommit(s, e)
	if code != wantCode {
		t.Fatalf("%s: Commit of %s has the code %d, want %d: %s", what, inShort(e), code, wantCode, tellServer(s))
	}
	wantServer(t, what+", Commit", got, want)
	got, ok := impl.Restart(s)
	want, wantOk := plainRestart(s)
	if ok != wantOk {
		t.Fatalf("%s: Restart is %v, want %v, of %s", what, ok, wantOk, tellServer(s))
	}
	wantServer(t, what+", Restart", got, want)
	wantMayWrite(t, what, s, q, plainMayWrite(s, q))
	wantServer(t, what+", what was handed in", s, before)
	return code, ok
}

func TestNumbersOfServers(t *testing.T) {
	kinds := []int{impl.AskMake, impl.AskCreate, impl.AskAppend, impl.AskClose, impl.AskMove, impl.AskDrop, impl.AskRead, impl.AskSchema, impl.AskQuota, impl.AskReopen}
	if !slices.Equal(kinds, []int{1, 2, 3, 4, 5, 6, 7, 8, 9, 10}) {
		t.Errorf("the kinds are %d", kinds)
	}
	if impl.NoHosts != 9 || impl.LostData != 10 || impl.Down != 11 {
		t.Errorf("the codes are %d, %d, %d", impl.NoHosts, impl.LostData, impl.Down)
	}
	q := impl.Ask{Kind: 1, Who: 2, Path: "/a", To: "/b", Text: "c", Num: 3}
	if got := fmt.Sprintf("%+v", q); got != "{Kind:1 Who:2 Path:/a To:/b Text:c Num:3}" {
		t.Errorf("an ask is %s", got)
	}
	s := impl.Server{Up: true, Tree: impl.Tree{}, Groups: 1, Disk: impl.Disk{}, Leases: nil, Now: 2}
	if got := fmt.Sprintf("%+v", s); got != "{Up:true Tree:{Nodes:[] Next:0} Groups:1 Disk:{Files:[]} Leases:[] Now:2}" {
		t.Errorf("a server is %s", got)
	}
}

func TestRecordsOfAsks(t *testing.T) {
	for _, c := range []struct {
		q    impl.Ask
		want impl.Edit
	}{
		{impl.Ask{Kind: impl.AskMake, Who: 1, Path: "/d"}, impl.Edit{Kind: impl.EdMake, Path: "/d"}},
		{impl.Ask{Kind: impl.AskCreate, Who: 9, Path: "/d/f"}, impl.Edit{Kind: impl.EdCreate, Path: "/d/f", Who: 9}},
		{impl.Ask{Kind: impl.AskAppend, Who: 2, Path: "/d/f", Text: "x"}, impl.Edit{Kind: impl.EdAdd, Path: "/d/f", Num: 1}},
		{impl.Ask{Kind: impl.AskAppend, Who: 2, Path: "/d/f", Text: strings.Repeat("\xff", 60)}, impl.Edit{Kind: impl.EdAdd, Path: "/d/f", Num: 60}},
		{impl.Ask{Kind: impl.AskClose, Who: 3, Path: "/d/f"}, impl.Edit{Kind: impl.EdClose, Path: "/d/f"}},
		{impl.Ask{Kind: impl.AskMove, Who: 4, Path: "/d", To: "/e/h"}, impl.Edit{Kind: impl.EdMove, Path: "/d", To: "/e/h"}},
		{impl.Ask{Kind: impl.AskDrop, Who: 5, Path: "/d"}, impl.Edit{Kind: impl.EdDrop, Path: "/d"}},
		{impl.Ask{Kind: impl.AskRead, Who: 6, Path: "/d/f"}, impl.Edit{}},
		{impl.Ask{Kind: impl.AskSchema, Who: 7, Path: "/", Num: 3}, impl.Edit{Kind: impl.EdSchema, Path: "/", Num: 3}},
		{impl.Ask{Kind: impl.AskQuota, Who: 8, Path: "/d", Num: 1000}, impl.Edit{Kind: impl.EdQuota, Path: "/d", Num: 1000}},
		{impl.Ask{Kind: impl.AskQuota, Who: 8, Path: "/", Num: 0}, impl.Edit{Kind: impl.EdQuota, Path: "/"}},
		{impl.Ask{Kind: impl.AskReopen, Who: 9, Path: "/d/f"}, impl.Edit{Kind: impl.EdOpen, Path: "/d/f", Who: 9}},
	} {
		wantAsk(t, "written out", c.q, true)
		wantEditOf(t, "written out", c.q, c.want)
	}
}

// Each right ask but that of a read has a right record.
func TestAsksThatAreRight(t *testing.T) {
	for _, rule := range askRules() {
		for i, p := range pathsOfEachDepth() {
			for who := 1; who <= 9; who++ {
				for _, num := range slices.Compact(rule.num[:]) {
					for _, length := range slices.Compact(rule.text[:]) {
						q := impl.Ask{Kind: rule.kind, Who: who, Path: p, Text: drawn(170+i, length), Num: num}
						if rule.to {
							q.To = pathsOfEachDepth()[1+i%12]
						}
						wantAsk(t, "a path of each depth", q, p != "/" || rule.top)
						if impl.EditOk(impl.EditOf(q)) != (impl.AskOk(q) && rule.kind != impl.AskRead) {
							t.Errorf("EditOk of EditOf %s", inShort(q))
						}
					}
				}
			}
		}
	}
}

func TestKindsThatAreNoAsks(t *testing.T) {
	for _, rule := range askRules() {
		wantAsk(t, "a right one", rule.right(), true)
		kinds := append(roundAbout(rule.kind), -1, 0, 11, 12, 17)
		for kind := range 12 {
			kinds = append(kinds, kind)
		}
		for _, kind := range kinds {
			q := rule.right()
			q.Kind = kind
			wantAsk(t, "another kind", q, plainAskOk(q))
			if !between(kind, [2]int{1, 10}) {
				wantAsk(t, "no kind", q, false)
				wantEditOf(t, "no kind", q, impl.Edit{})
				wantMayWrite(t, "no kind", heldServer(), q, 0)
			}
		}
	}
	wantAsk(t, "nothing", impl.Ask{}, false)
}

func TestWhoOfAsks(t *testing.T) {
	for _, rule := range askRules() {
		for _, who := range append(roundAbout(5), -1, 0, 1, 2, 8, 9, 10, 11) {
			q := rule.right()
			q.Who = who
			wantAsk(t, "a Who", q, who >= 1 && who <= 9)
		}
	}
}

func TestPathsOfAsks(t *testing.T) {
	for _, rule := range askRules() {
		q := rule.right()
		q.Path = "/"
		wantAsk(t, "the root", q, rule.kind == impl.AskSchema || rule.kind == impl.AskQuota)
		q.Path = "/d"
		wantAsk(t, "one name", q, true)
		for what, p := range textsThatAreNoPaths() {
			q.Path = p
			wantAsk(t, what, q, false)
		}
	}
}

func TestTosOfAsks(t *testing.T) {
	for _, rule := range askRules() {
		q := rule.right()
		for _, to := range append(pathsOfEachDepth(), "/hall/door", "/hall/door/far", "", "x", " ", "\x00") {
			q.To = to
			switch rule.kind {
			case impl.AskMove:
				wantAsk(t, "a To", q, isNamedPath(to))
			default:
				wantAsk(t, "a To of a kind that has none", q, to == "")
			}
		}
		for what, to := range textsThatAreNoPaths() {
			q.To = to
			wantAsk(t, what, q, to == "" && rule.kind != impl.AskMove)
		}
	}
}

func TestTextsOfAsks(t *testing.T) {
	for _, rule := range askRules() {
		q := rule.right()
		for length := range 130 {
			q.Text = drawn(171, length)
			switch rule.kind {
			case impl.AskAppend:
				wantAsk(t, "a text", q, length >= 1 && length <= 60)
				wantEditOf(t, "a text", q, editAdd(q.Path, length))
			default:
				wantAsk(t, "a text of a kind that has none", q, length == 0)
			}
		}
		for _, text := range []string{strings.Repeat("x", 200), strings.Repeat("x", 201), allBytes(), allBytes() + "x", strings.Repeat("x", impl.MaxText+1)} {
			q.Text = text
			wantAsk(t, "a long text", q, false)
		}
		for b := range 256 {
			q.Text = string([]byte{byte(b)})
			wantAsk(t, "a text of one byte", q, rule.kind == impl.AskAppend)
			q.Text = strings.Repeat(q.Text, 60)
			wantAsk(t, "a text of 60 bytes", q, rule.kind == impl.AskAppend)
		}
	}
	// Bytes are counted, not runes.
	q := impl.Ask{Kind: impl.AskAppend, Who: 1, Path: "/f", Text: strings.Repeat("ö", 30)}
	wantAsk(t, "30 runes of two bytes", q, true)
	wantEditOf(t, "30 runes of two bytes", q, editAdd("/f", 60))
	q.Text += "ö"
	wantAsk(t, "31 runes of two bytes", q, false)
}

func TestNumsOfAsks(t *testing.T) {
	for _, rule := range askRules() {
		q := rule.right()
		for _, num := range append(roundAbout(2), -1, 0, 1, 2, 3, 4, 5, 60, 200, 999, 1000, 1001, 1002) {
			q.Num = num
			switch rule.kind {
			case impl.AskSchema:
				wantAsk(t, "a schema", q, num >= 1 && num <= 3)
			case impl.AskQuota:
				wantAsk(t, "a quota", q, num >= 0 && num <= 1000)
			default:
				wantAsk(t, "a Num of a kind that has none", q, num == 0)
			}
		}
	}
	// The Num of an ask that appends is not the length of its text.
	wantAsk(t, "a length", impl.Ask{Kind: impl.AskAppend, Who: 1, Path: "/f", Text: "four", Num: 4}, false)
}

// What a kind has not is left out of its record, be the ask right or not.
func TestRecordsHaveWhatTheirKindsHave(t *testing.T) {
	for kind := -2; kind <= 13; kind++ {
		q := impl.Ask{Kind: kind, Who: 12, Path: "no path", To: "no path, either", Text: allBytes(), Num: -4}
		wantAsk(t, "all is told", q, false)
		e := impl.EditOf(q)
		if e.To != "" && kind != impl.AskMove || e.Who != 0 && kind != impl.AskCreate && kind != impl.AskReopen {
			t.Errorf("EditOf %+v = %+v", q, e)
		}
		if kind == impl.AskRead && e != (impl.Edit{}) {
			t.Errorf("EditOf a read = %+v", e)
		}
	}
}

// ask draws an ask, most of which are right.
func (d *draw) ask(paths []string) impl.Ask {
	rule := askRules()[d.below(10)]
	q := rule.right()
	q.Who = 1 + d.below(9)
	q.Path = paths[d.below(len(paths))]
	if rule.to {
		q.To = paths[d.below(len(paths))]
	}
	q.Num += d.below(rule.num[1] - rule.num[0] + 1)
	q.Text = d.text(rule.text[0] + d.below(rule.text[1]-rule.text[0]+1))
	switch d.below(20) {
	case 0:
		q.Who = []int{0, 10, -1, math.MaxInt, math.MinInt}[d.below(5)]
	case 1:
		q.Kind = d.below(14) - 2
	case 2:
		q.To = paths[d.below(len(paths))]
	case 3:
		q.Num += []int{1, -1, 1000, 1 << 40}[d.below(4)]
	case 4:
		q.Text = d.text(d.below(70))
	case 5:
		q.Path = []string{"/", "", "//", "/A", "/a/", "/a/b/c/d/e"}[d.below(6)]
	}
	return q
}

func TestAsksThatAreDrawn(t *testing.T) {
	d := draw(174)
	right := map[int]int{}
	wrong := 0
	paths := append(pathsOfEachDepth(), ninePaths()...)
	for range 40000 {
		q := d.ask(paths)
		ok := plainAskOk(q)
		wantAsk(t, "a drawn ask", q, ok)
		if ok {
			right[q.Kind]++
		} else {
			wrong++
		}
	}
	for kind := 1; kind <= 10; kind++ {
		if right[kind] < 2000 {
			t.Errorf("just %d asks of the kind %d are right", right[kind], kind)
		}
	}
	if wrong < 5000 {
		t.Errorf("just %d asks are wrong", wrong)
	}
}

func TestANewServer(t *testing.T) {
	want := impl.Server{Up: true, Tree: impl.Tree{Nodes: []impl.Inode{rootNode()}, Next: 2}, Groups: 1}
	wantServer(t, "new", impl.ServerNew(), want)
	wantNoRestart(t, "new, and Up", impl.ServerNew())
	got := mustRestart(t, "new, and fallen", fallen(impl.ServerNew()))
	want.Groups, want.Disk = 21, logAlone(logText(editBoot()))
	wantServer(t, "new, fallen, and restarted", got, want)
	s := impl.ServerNew()
	scribbleServer(s)
	want.Groups, want.Disk = 1, impl.Disk{}
	wantServer(t, "new again", impl.ServerNew(), want)
}

// aLifeOfRecords has records of each kind, none of which is refused.
func aLifeOfRecords() []impl.Edit {
	return []impl.Edit{
		editMake("/d"), editSchema("/d", 2), editCreate("/d/f", 3), editAdd("/d/f", 60), editQuota("/", 400), editClose("/d/f"),
		editOpen("/d/f", 4), editBoot(), editAdd("/d/f", 1), editMake("/e"), editMove("/d/f", "/e/g"), editCreate("/h", 9),
		editAdd("/h", 33), editDrop("/d"), editQuota("/", 0), editSchema("/", 3), editCreate("/k", 1), editAdd("/k", 200), editDrop("/e"),
	}
}

// What a server commits it has behind a restart, whenever it falls.
func TestServersThatCommit(t *testing.T) {
	s := impl.ServerNew()
	s.Now, s.Leases = 41, leasesOf(4)
	for i, e := range aLifeOfRecords() {
		s = mustCommit(t, "a life", s, e)
		what := fmt.Sprintf("a life of %d records", i+1)
		tree, groups := plainTree(aLifeOfRecords()[:i+1])
		want := impl.Server{Up: true, Tree: tree, Groups: groups, Disk: logAlone(logText(aLifeOfRecords()[:i+1]...)), Leases: leasesOf(4), Now: 41}
		wantServer(t, what, s, want)
		wantNoRestart(t, what+", Up", s)
		risen := wantBehindARestart(t, what, s)
		log, _ := impl.FileAt(risen.Disk, "log")
		wantLog(t, what+", restarted", log, append(aLifeOfRecords()[:i+1], editBoot()), len(log))
		if !impl.AllKept(s.Disk) || !impl.AllKept(risen.Disk) {
			t.Errorf("%s: not all of the log is kept", what)
		}
	}
	if kinds := map[int]bool{}; true {
		for _, e := range aLifeOfRecords() {
			kinds[e.Kind] = true
		}
		if len(kinds) != 10 {
			t.Errorf("the life has %d kinds of records", len(kinds))
		}
	}
}

func TestServersThatCommitAsks(t *testing.T) {
	s := impl.ServerNew()
	for _, q := range []impl.Ask{
		{Kind: impl.AskMake, Who: 1, Path: "/d"},
		{Kind: impl.AskSchema, Who: 1, Path: "/", Num: 2},
		{Kind: impl.AskCreate, Who: 2, Path: "/d/f"},
		{Kind: impl.AskAppend, Who: 2, Path: "/d/f", Text: strings.Repeat("t", 60)},
		{Kind: impl.AskClose, Who: 2, Path: "/d/f"},
		{Kind: impl.AskReopen, Who: 3, Path: "/d/f"},
		{Kind: impl.AskQuota, Who: 3, Path: "/d", Num: 61},
		{Kind: impl.AskMove, Who: 3, Path: "/d/f", To: "/g"},
		{Kind: impl.AskAppend, Who: 3, Path: "/g", Text: "tt"},
		{Kind: impl.AskDrop, Who: 3, Path: "/d"},
	} {
		wantAsk(t, "a life of asks", q, true)
		s = mustCommit(t, "a life of asks", s, impl.EditOf(q))
		wantBehindARestart(t, "a life of asks", s)
	}
	g := written(fileNode(3, 1, "g", 2), 3)
	g.Len, g.Pieces = 62, []impl.Piece{{Group: 1, Len: 24}, {Group: 2, Len: 24}, {Group: 3, Len: 12}, {Group: 4, Len: 2}}
	want := impl.Tree{Nodes: []impl.Inode{ofSchema(rootNode(), 2), g}, Next: 4}
	if !sameTree(s.Tree, want) || s.Groups != 5 {
		t.Errorf("in the end: %s", tellServer(s))
	}
	// The record of a read is none.
	wantNotCommitted(t, "a read", s, impl.EditOf(impl.Ask{Kind: impl.AskRead, Who: 3, Path: "/g"}), impl.BadEdit)
}

// groupsOf are all groups that files of the tree have.
func groupsOf(tree impl.Tree) []int {
	return impl.GroupsOf(tree, 1)
}

// A group that was given is never given again, not even when the power took the record that it was
// given to: of no record there are more of them than a boot leaves out.
func TestGroupsBehindARestartWereNeverGiven(t *testing.T) {
	s := impl.ServerNew()
	given := map[int]bool{}
	s = mustCommit(t, "a file", s, editCreate("/f", 1))
	for round := range 8 {
		for range 2 {
			next := mustCommit(t, "bytes", s, editAdd("/f", 5+round))
			for _, group := range groupsOf(next.Tree) {
				if !slices.Contains(groupsOf(s.Tree), group) && given[group] {
					t.Fatalf("round %d: the group %d is given again", round, group)
				}
				given[group] = true
			}
			s = next
		}
		// Units of these are written, but the record does not come into the log.
		lost, code := impl.Apply(s.Tree, editAdd("/f", 60), s.Groups)
		if code != 0 {
			t.Fatalf("round %d: the code %d", round, code)
		}
		for _, group := range groupsOf(lost) {
			given[group] = true
		}
		disk, ok := impl.CutActs(s.Disk, recordActs(t, editAdd("/f", 60)), round%2, []int{len(s.Disk.Files[0].Text) + round})
		if !ok {
			t.Fatalf("round %d: the power can't go", round)
		}
		torn := fallen(s)
		torn.Disk = disk
		risen := mustRestart(t, "restarted", torn)
		if !sameTree(risen.Tree, s.Tree) {
			t.Fatalf("round %d: %s", round, tellServer(risen))
		}
		for group := range given {
			if group >= risen.Groups {
				t.Fatalf("round %d: %d is given already, and %d is next", round, group, risen.Groups)
			}
		}
		s = risen
	}
	if len(given) < 40 {
		t.Errorf("just %d groups are given", len(given))
	}
}

// A log that is told again and again tells the same, and a boot for each time.
func TestServersThatFallAgain(t *testing.T) {
	start := withLog(logLife()...)
	s := start
	for times := 1; times <= 30; times++ {
		s.Leases, s.Now = leasesOf(times%9), 17*times
		fell := s
		s = wantBehindARestart(t, fmt.Sprintf("restart %d", times), s)
		log := append(logLife(), slices.Repeat([]impl.Edit{editBoot()}, times)...)
		wantServer(t, "again and again", s, impl.Server{Up: true, Tree: start.Tree, Groups: start.Groups + 20*times, Disk: logAlone(logText(log...)), Now: fell.Now})
		// The same fall told twice has the same restart: nothing of the first one is kept.
		again, _ := impl.Restart(fallen(fell))
		wantServer(t, "the same fall again", again, s)
		wantNoRestart(t, "restarted, and Up", s)
	}
	more := mustCommit(t, "behind many falls", s, editAdd("/e/h/g", 1))
	g := more.Tree.Nodes[2]
	if last := g.Pieces[len(g.Pieces)-1]; last != (impl.Piece{Group: start.Groups + 600, Len: 1}) {
		t.Errorf("the groups go on with %+v", last)
	}
	wantBehindARestart(t, "behind many falls", more)
}

// The same record stands twice in a log where it was committed twice: what the tree refuses the
// second time it refuses again, and what it takes is done twice.
func TestLogsWithARecordTwice(t *testing.T) {
	ahead := []impl.Edit{editMake("/d"), editCreate("/d/f", 3), editAdd("/d/f", 20)}
	for _, c := range []struct {
		e      impl.Edit
		code   int
		groups int
	}{
		{editMake("/e"), impl.Exists, 3},
		{editMake("/d"), impl.Exists, 3},
		{editCreate("/e", 1), impl.Exists, 3},
		{editMove("/d", "/e"), impl.NotFound, 3},
		{editDrop("/d/f"), impl.NotFound, 3},
		{editSchema("/d", 2), 0, 3},
		{editQuota("/", 30), 0, 3},
		{editAdd("/d/f", 7), 0, 5},
		{editAdd("/d/f", 200), 0, 29},
		{editClose("/d/f"), impl.WrongHolder, 3},
		{editOpen("/d/f", 4), impl.WrongHolder, 3},
		{editBoot(), 0, 43},
	} {
		list := append(slices.Clone(ahead), c.e, c.e)
		tree, groups := plainTree(list)
		if groups != c.groups {
			t.Fatalf("%+v twice takes groups up to %d", c.e, groups)
		}
		torn := impl.Server{Disk: logAlone(logText(list...))}
		risen := mustRestart(t, "a record twice", torn)
		if !sameTree(risen.Tree, tree) || risen.Groups != c.groups+20 {
			t.Errorf("%+v twice: %s", c.e, tellServer(risen))
		}
		// The code of the second time is that of a server that has the first one.
		once := withLog(list[:len(ahead)]...)
		if next, code := impl.Commit(once, c.e); code == 0 {
			once = next
		}
		if c.code != 0 {
			wantNotCommitted(t, "a record twice", once, c.e, c.code)
		} else {
			once = mustCommit(t, "a record twice", once, c.e)
		}
		wantBehindARestart(t, "a record twice", once)
	}
	whole := append(slices.Clone(logLife()), logLife()...)
	mustRestart(t, "a life twice", impl.Server{Disk: logAlone(logText(whole...))})
	boots := slices.Repeat([]impl.Edit{editBoot()}, 1800)
	risen := mustRestart(t, "boots", impl.Server{Disk: logAlone(logText(boots...))})
	if risen.Groups != 1+20*1801 {
		t.Errorf("behind 1801 boots %d is next", risen.Groups)
	}
}

func TestServersThatAreNotUp(t *testing.T) {
	for _, s := range []impl.Server{withLog(), withLog(logLife()...), heldServer(), {}, {Tree: shed(), Groups: 5, Now: 9}, {Disk: manyFiles(31), Groups: -1}} {
		s = fallen(s)
		for _, e := range append(someEdits(), impl.Edit{}, editMake("/x/y"), editMake("/A"), impl.Edit{Kind: 11, Path: "/d"}) {
			wantNotCommitted(t, "not Up", s, e, impl.Down)
		}
	}
	mustRestart(t, "not Up", fallen(heldServer()))
	// What such a server knows is that of its disk alone.
	lost := fallen(heldServer())
	lost.Tree, lost.Groups, lost.Leases = impl.Tree{}, math.MinInt, nil
	wantServer(t, "its tree is lost", mustRestart(t, "its tree is lost", lost), mustRestart(t, "not Up", fallen(heldServer())))
	lost.Tree, lost.Groups, lost.Leases = shed(), 99000, leasesOf(9)
	wantServer(t, "its tree is another one", mustRestart(t, "its tree is another one", lost), mustRestart(t, "not Up", fallen(heldServer())))
}

func TestServersThatAreUpDoNotRestart(t *testing.T) {
	for _, s := range []impl.Server{withLog(), withLog(logLife()...), heldServer(), {Up: true}, {Up: true, Tree: shed(), Groups: 5}, {Up: true, Disk: manyFiles(31)}} {
		wantNoRestart(t, "Up", s)
	}
	half := withLog(logLife()...)
	half.Disk = logAlone(half.Disk.Files[0].Text + "half")
	wantNoRestart(t, "Up, and bytes behind its log", half)
	mustRestart(t, "bytes behind its log", fallen(half))
}

// Each code that a record may have leaves the server as it is.
func TestRecordsThatServersRefuse(t *testing.T) {
	s := impl.Server{Up: true, Tree: shed(), Groups: 50, Disk: threeFiles(), Leases: leasesOf(3), Now: 77}
	codes := map[[2]int]bool{}
	d := draw(175)
	for range 6000 {
		e := d.editNear(s.Tree)
		if d.below(3) == 0 {
			e = oneOfEachKind()[d.below(len(oneOfEachKind()))]
		}
		_, _, code := plainApply(s.Tree, e, s.Groups)
		codes[[2]int{e.Kind, code}] = true
		if code == 0 {
			mustCommit(t, "a shed", s, e)
		} else {
			wantNotCommitted(t, "a shed", s, e, code)
		}
	}
	if len(codes) < 30 {
		t.Errorf("just %d codes of kinds came: %v", len(codes), codes)
	}
	for _, e := range wrongEdits() {
		wantNotCommitted(t, "a wrong record", s, e, impl.BadEdit)
	}
	full := impl.Server{Up: true, Tree: manyNodes(14), Groups: 50}
	wantNotCommitted(t, "14 nodes", full, editMake("/x"), impl.TooMany)
	wantNotCommitted(t, "14 nodes", full, editCreate("/x", 1), impl.TooMany)
}

func TestServersWithTreesThatAreNotRight(t *testing.T) {
	for what, tree := range treesThatAreNotRight() {
		for _, e := range oneOfEachKind() {
			wantNotCommitted(t, what, impl.Server{Up: true, Tree: tree, Groups: 1, Disk: threeFiles(), Now: 3}, e, impl.BadEdit)
		}
		mustRestart(t, what, impl.Server{Tree: tree, Groups: 1, Disk: threeFiles(), Now: 3})
	}
}

func TestServersAtTheLastGroups(t *testing.T) {
	tree := treeOf(rootNode(), written(fileNode(2, 1, "f", 1), 1), written(fileNode(3, 1, "g", 3), 1))
	for _, c := range []struct {
		e     impl.Edit
		taken int
	}{
		{editMake("/d"), 0}, {editCreate("/h", 3), 0}, {editMove("/f", "/h"), 0}, {editDrop("/g"), 0}, {editSchema("/", 2), 0}, {editQuota("/", 7), 0}, {editClose("/f"), 0},
		{editAdd("/f", 1), 1}, {editAdd("/f", 16), 1}, {editAdd("/f", 17), 2}, {editAdd("/f", 200), 13}, {editAdd("/g", 60), 2}, {editAdd("/g", 200), 7}, {editBoot(), 20},
	} {
		for groups := 99000 - 25; groups <= 99000; groups++ {
			s := impl.Server{Up: true, Tree: tree, Groups: groups, Disk: threeFiles(), Leases: leasesOf(2), Now: 5}
			if groups+c.taken > 99000 {
				wantNotCommitted(t, "too many groups", s, c.e, impl.Down)
				continue
			}
			after := mustCommit(t, "the last groups", s, c.e)
			if after.Groups != groups+c.taken {
				t.Errorf("%+v of %d takes groups up to %d", c.e, groups, after.Groups)
			}
		}
		for _, groups := range append(outOfRange(99001), 0, 99001, 99002) {
			s := impl.Server{Up: true, Tree: tree, Groups: groups, Disk: threeFiles(), Leases: leasesOf(2), Now: 5}
			wantNotCommitted(t, "groups that are none", s, c.e, impl.BadEdit)
			s = fallen(s)
			wantNotCommitted(t, "groups that are none, not Up", s, c.e, impl.Down)
			mustRestart(t, "groups that are none, not Up", s)
		}
	}
	// A record that is refused has its own code, also where its groups would be too many.
	s := impl.Server{Up: true, Tree: tree, Groups: 99000}
	wantNotCommitted(t, "a refused one", s, editAdd("/x", 200), impl.NotFound)
	wantNotCommitted(t, "a refused one", s, editAdd("/", 200), impl.BadEdit)
	// What the log's groups are is asked by a restart, not what the server's were.
	mustRestart(t, "the last groups", fallen(s))
}

// fullLog is a right log with just so many bytes left.
func fullLog(left int) string {
	_, log := logOfSize(impl.MaxText - left)
	return log
}

func TestServersWithAFullLog(t *testing.T) {
	for _, e := range []impl.Edit{editMake("/d"), editCreate("/dd", 1), editMove("/f", "/e"), editDrop("/f"), editSchema("/", 2), editQuota("/", 1000), editAdd("/f", 3), editClose("/f"), editBoot()} {
		size := len(logText(e))
		for left := range size + 4 {
			for _, kept := range []int{0, impl.MaxText - left} {
				s := impl.Server{Up: true, Tree: treeOf(rootNode(), written(fileNode(2, 1, "f", 1), 1)), Groups: 3, Disk: diskOf(file("log", fullLog(left), kept)), Leases: leasesOf(2), Now: 5}
				if left < size {
					wantNotCommitted(t, "a full log", s, e, impl.Down)
				} else {
					mustCommit(t, "a log with room", s, e)
				}
				// Where a record is refused, and there is no room for it, its own code comes ahead.
				wantNotCommitted(t, "a full log, a refused one", s, editMake("/f"), impl.Exists)
				wantNotCommitted(t, "a full log, a wrong one", s, editMake("/"), impl.BadEdit)
			}
		}
	}
	// A boot takes 11 bytes.
	for left := range 30 {
		s := impl.Server{Disk: logAlone(fullLog(left)), Leases: leasesOf(2), Now: 6, Groups: 4}
		if left < 11 {
			wantNoRestart(t, "no room for a boot", s)
		} else {
			mustRestart(t, "room for a boot", s)
		}
	}
	// Bytes behind the records make room where they are taken away.
	for _, left := range []int{1, 10, 11, 20} {
		s := impl.Server{Disk: logAlone(fullLog(left) + strings.Repeat("x", left)), Now: 6}
		if left < 11 {
			wantNoRestart(t, "bytes behind the records", s)
		} else {
			mustRestart(t, "bytes behind the records", s)
		}
	}
	mustRestart(t, "a log of no records", impl.Server{Disk: logAlone(strings.Repeat("x", impl.MaxText))})
}

func TestServersWithAFullDisk(t *testing.T) {
	log := logText(logLife()...)
	with := func(count int, files ...impl.File) impl.Server {
		s := withLog(logLife()...)
		s.Disk = diskOf(append(manyFiles(count).Files, files...)...)
		return s
	}
	for count := 27; count <= 30; count++ {
		s := with(count)
		if count == 30 {
			wantNotCommitted(t, "no room for a log", s, editMake("/x"), impl.Down)
			wantNotCommitted(t, "no room for a log, a refused one", s, editMake("/e"), impl.Exists)
			wantNoRestart(t, "no room for a log", fallen(s))
			continue
		}
		mustCommit(t, "room for a log", s, editMake("/x"))
		mustRestart(t, "room for a log", fallen(s))

		s = with(count, file("log", log, 0))
		mustCommit(t, "a whole log", s, editMake("/x"))
		mustRestart(t, "a whole log", fallen(s))

		s = with(count, file("log", log+"half", 0))
		mustCommit(t, "bytes behind the log", s, editMake("/x"))
		if count == 29 {
			wantNoRestart(t, "no room to mend", fallen(s))
			continue
		}
		mustRestart(t, "room to mend", fallen(s))
		for _, text := range []string{"", "left", log} {
			s = with(count, file("log", log+"half", 0), file("log+", text, 0))
			mustRestart(t, "what is left of mending", fallen(s))
			s = with(count+1, file("log+", text, 0))
			mustRestart(t, "what is left of mending alone", fallen(s))
		}
	}
}

func TestServersWithDisksThatAreNotRight(t *testing.T) {
	log := logText(logLife()...)
	disks := wrongDisks()
	disks["a log kept past its end"] = diskOf(file("log", log, len(log)+1))
	disks["a log kept below 0"] = diskOf(file("log", log, -1))
	disks["two logs"] = diskOf(file("log", log, 0), file("log", log, 0))
	disks["a log too long"] = logAlone(strings.Repeat(log, 1+impl.MaxText/len(log)))
	disks["a log behind another name"] = diskOf(file("z", "", 0), file("log", log, 0))
	for what, d := range disks {
		s := withLog(logLife()...)
		s.Disk, s.Leases = d, leasesOf(3)
		for _, e := range []impl.Edit{editMake("/x"), editBoot(), editAdd("/e/h/g", 3)} {
			wantNotCommitted(t, what, s, e, impl.Down)
		}
		wantNotCommitted(t, what+", a refused one", s, editMake("/e"), impl.Exists)
		wantNotCommitted(t, what+", a wrong one", s, editMake("/"), impl.BadEdit)
		wantNoRestart(t, what, fallen(s))
		wantNoRestart(t, what+", Up", s)
	}
}

// What the power leaves of a record's acts comes back whole or not at all, and is told again so.
func TestServersThatFallInARecord(t *testing.T) {
	s := impl.ServerNew()
	for i, e := range aLifeOfRecords() {
		next := mustCommit(t, "a life", s, e)
		acts := recordActs(t, e)
		log, _ := impl.FileAt(s.Disk, "log")
		for whole := range len(acts) + 1 {
			for left := -1; left <= len(acts[0].Text)+1; left++ {
				what := fmt.Sprintf("record %d, behind %d acts, with %d bytes", i, whole, left)
				disk, ok := impl.CutActs(s.Disk, acts, whole, []int{len(log) + left})
				if !ok {
					t.Fatalf("%s: the power can't go", what)
				}
				torn := fallen(s)
				torn.Disk = disk
				risen := mustRestart(t, what, torn)
				want := s
				if whole == 2 || whole == 1 && left >= len(acts[0].Text) {
					want = next
				}
				if !sameTree(risen.Tree, want.Tree) || risen.Groups != want.Groups+20 {
					t.Fatalf("%s: %s", what, tellServer(risen))
				}
				if left%5 == 0 {
					wantBehindARestart(t, what+", again", risen)
				}
			}
		}
		s = next
	}
}

func TestServersWithLogsThatAreTorn(t *testing.T) {
	log, ends := logOf(logLife()...)
	for cut := range len(log) + 1 {
		whole := 0
		for whole < len(ends) && ends[whole] <= cut {
			whole++
		}
		tree, groups := plainTree(logLife()[:whole])
		risen := mustRestart(t, "a torn log", impl.Server{Disk: logAlone(log[:cut]), Now: cut})
		want := impl.Server{Up: true, Tree: tree, Groups: groups + 20, Disk: logAlone(logText(append(logLife()[:whole:whole], editBoot())...)), Now: cut}
		wantServer(t, fmt.Sprintf("cut at %d", cut), risen, want)
	}
	for what, text := range noRecordTexts() {
		s := impl.Server{Disk: logAlone(log + frameByBits(text) + log)}
		risen := mustRestart(t, what, s)
		if !sameTree(risen.Tree, treeOfLogLife()) || risen.Groups != 67 {
			t.Errorf("%s: %s", what, tellServer(risen))
		}
	}
	// Bytes that are not yet kept are told all the same, and kept then.
	for kept := 0; kept <= len(log); kept += 7 {
		risen := mustRestart(t, "not kept", impl.Server{Disk: diskOf(file("a", "ahead", 2), file("log", log, kept))})
		if risen.Disk.Files[1].Kept != len(log)+11 || risen.Disk.Files[0].Kept != 2 {
			t.Errorf("not kept: %s", tell(risen.Disk))
		}
	}
}

func TestTimesOfServers(t *testing.T) {
	for _, now := range append(farNumbers(), 0, 1, impl.MaxNumber, impl.MaxNumber+1) {
		s := withLog(logLife()...)
		s.Now = now
		mustCommit(t, "a time", s, editMake("/x"))
		wantNotCommitted(t, "a time", s, editMake("/e"), impl.Exists)
		wantBehindARestart(t, "a time", s)
		wantNoRestart(t, "a time", s)
		wantMayWrite(t, "a time", s, impl.Ask{Kind: impl.AskAppend, Who: 1, Path: "/x", Text: "x"}, impl.WrongHolder)
	}
}

// A commit leaves leases as they are, whatever they are, and a restart drops them.
func TestServersWithLeasesThatAreNotRight(t *testing.T) {
	for what, list := range wrongLeases() {
		s := withLog(logLife()...)
		s.Leases = list
		mustCommit(t, what, s, editMake("/x"))
		wantNotCommitted(t, what, s, editMake("/e"), impl.Exists)
		wantNoRestart(t, what, s)
		wantBehindARestart(t, what, s)
	}
}

// With no lease an append alone is refused.
func TestMayWriteWithoutALease(t *testing.T) {
	for _, list := range [][]impl.Lease{nil, {}, {leaseOf("/gate", 5, 1), leaseOf("/hall/doors", 6, 1), leaseOf("/halls", 7, 1)}} {
		for _, s := range []impl.Server{{Leases: list}, {Up: true, Leases: list}, {Up: true, Tree: shed(), Groups: 3, Leases: list}} {
			for kind := -1; kind <= 12; kind++ {
				for who := 1; who <= 9; who++ {
					q := impl.Ask{Kind: kind, Who: who, Path: "/hall/door", To: "/gate", Text: "x", Num: 1}
					want := 0
					if kind == impl.AskAppend {
						want = impl.WrongHolder
					}
					wantMayWrite(t, "no lease", s, q, want)
				}
			}
		}
	}
}

func TestMayWriteWithALease(t *testing.T) {
	bars := map[int]bool{impl.AskAppend: true, impl.AskClose: true, impl.AskReopen: true, impl.AskMove: true, impl.AskDrop: true}
	for holder := 1; holder <= 9; holder++ {
		// The lease of another path stands ahead of it, and one behind.
		s := impl.Server{Up: true, Leases: []impl.Lease{leaseOf("/a", 10-holder, 3), leaseOf("/hall/door", holder, 7), leaseOf("/z", 10-holder, 9)}}
		for kind := -1; kind <= 12; kind++ {
			for who := 1; who <= 9; who++ {
				q := impl.Ask{Kind: kind, Who: who, Path: "/hall/door"}
				want := 0
				if bars[kind] && who != holder {
					want = impl.WrongHolder
				}
				what := fmt.Sprintf("%d's lease", holder)
				wantMayWrite(t, what, s, q, want)
				// A lease is asked for however old it is.
				old := s
				old.Now = impl.MaxNumber
				wantMayWrite(t, what+", old", old, q, want)
				wantMayWrite(t, what+", not Up", fallen(s), q, want)
			}
		}
	}
}

// nearPaths tell of a path whether a lease of it bars a move or a drop of /hall, and one of anything else.
func nearPaths() map[string]bool {
	return map[string]bool{
		"/hall": true, "/hall/a": true, "/hall/a/b": true, "/hall/a/b/c": true, "/hall/hall": true, "/hall/0": true,
		"/": false, "/a": false, "/hal": false, "/hal/l": false, "/halls": false, "/hall0": false, "/hall0/a": false, "/a/hall": false, "/a/hall/b": false, "/i": false,
	}
}

func TestMovesAndDropsOfWhatOthersHold(t *testing.T) {
	for _, kind := range []int{impl.AskMove, impl.AskDrop} {
		for p, bars := range nearPaths() {
			for holder := 1; holder <= 9; holder++ {
				for who := 1; who <= 9; who++ {
					q := impl.Ask{Kind: kind, Who: who, Path: "/hall", To: "/gate"}
					want := 0
					if bars && who != holder {
						want = impl.WrongHolder
					}
					what := fmt.Sprintf("%d has %s", holder, p)
					wantMayWrite(t, what, impl.Server{Leases: []impl.Lease{leaseOf(p, holder, 1)}}, q, want)
					// Leases of one's own, ahead and behind, let nothing pass.
					own := []impl.Lease{leaseOf("/hall/0", who, 1), leaseOf(p, holder, 1), leaseOf("/hall/z", who, 1)}
					wantMayWrite(t, what, impl.Server{Leases: own}, q, want)
					all := []impl.Lease{leaseOf("/0", holder, 1), leaseOf("/hall0", holder, 1), leaseOf(p, holder, 1), leaseOf("/z", holder, 1)}
					wantMayWrite(t, what, impl.Server{Leases: all}, q, want)
				}
			}
		}
		// What is at To, above it or below it bars nothing.
		for _, p := range []string{"/gate", "/gate/a", "/g"} {
			q := impl.Ask{Kind: kind, Who: 1, Path: "/hall", To: "/gate"}
			wantMayWrite(t, "another one's at To", impl.Server{Leases: []impl.Lease{leaseOf(p, 2, 1)}}, q, 0)
		}
	}
}

// A lease of the path alone is asked for by these, not one above it or below it.
func TestWritesOfWhatOthersHold(t *testing.T) {
	for _, kind := range []int{impl.AskAppend, impl.AskClose, impl.AskReopen} {
		nobody := 0
		if kind == impl.AskAppend {
			nobody = impl.WrongHolder
		}
		for p := range nearPaths() {
			for who := 1; who <= 9; who++ {
				q := impl.Ask{Kind: kind, Who: who, Path: "/hall", Text: "x"}
				own, others := impl.Server{Leases: []impl.Lease{leaseOf(p, who, 1)}}, impl.Server{Leases: []impl.Lease{leaseOf(p, who%9+1, 1)}}
				if p == "/hall" {
					wantMayWrite(t, "one's own", own, q, 0)
					wantMayWrite(t, "another one's", others, q, impl.WrongHolder)
					continue
				}
				wantMayWrite(t, "one's own near it", own, q, nobody)
				wantMayWrite(t, "another one's near it", others, q, nobody)
			}
		}
	}
}

// Another one is above 0, and not Who: a lease of nobody bars nothing, but it is no leave to append.
func TestMayWriteWithLeasesOfNobody(t *testing.T) {
	far := append(roundAbout(3), 0, -1, 1, 9, 10)
	for _, holder := range far {
		for _, who := range []int{1, 9, 0, -1, 10, holder} {
			for kind := -1; kind <= 12; kind++ {
				list := []impl.Lease{leaseOf("/hall", holder, 1)}
				want := 0
				switch kind {
				case impl.AskAppend:
					if holder == 0 || holder > 0 && holder != who {
						want = impl.WrongHolder
					}
				case impl.AskClose, impl.AskReopen, impl.AskMove, impl.AskDrop:
					if holder > 0 && holder != who {
						want = impl.WrongHolder
					}
				}
				wantMayWrite(t, "a far holder", impl.Server{Leases: list}, impl.Ask{Kind: kind, Who: who, Path: "/hall"}, want)
			}
		}
	}
	// Of two leases of one path HolderOf tells the first one; each of them bars a move.
	twice := impl.Server{Leases: []impl.Lease{leaseOf("/hall", 1, 5), leaseOf("/hall", 2, 5)}}
	for kind := 1; kind <= 10; kind++ {
		for who := 1; who <= 3; who++ {
			q := impl.Ask{Kind: kind, Who: who, Path: "/hall"}
			wantMayWrite(t, "two of one path", twice, q, plainMayWrite(twice, q))
		}
	}
	wantMayWrite(t, "two of one path", twice, impl.Ask{Kind: impl.AskAppend, Who: 1, Path: "/hall"}, 0)
	wantMayWrite(t, "two of one path", twice, impl.Ask{Kind: impl.AskDrop, Who: 1, Path: "/hall"}, impl.WrongHolder)
}

// Paths are taken as the texts they are, right or not.
func TestMayWriteOfAnyTexts(t *testing.T) {
	texts := []string{"", "/", "//", "///", "/a", "/a/", "/a//", "/a//b", "a", "a/", "a/b", "\xff", "\xff/\x00", allBytes(), "/" + allBytes(), strings.Repeat("/a", 20000), strings.Repeat("/a", 20001)}
	for _, p := range texts {
		for _, held := range texts {
			for kind := 1; kind <= 10; kind++ {
				for _, holder := range []int{1, 2, 0} {
					s := impl.Server{Leases: []impl.Lease{leaseOf(held, holder, 1)}}
					q := impl.Ask{Kind: kind, Who: 1, Path: p, To: held, Text: held}
					wantMayWrite(t, "any texts", s, q, plainMayWrite(s, q))
				}
			}
		}
	}
	// `/` and a `/` are two of them, with which no path begins.
	q := impl.Ask{Kind: impl.AskDrop, Who: 1, Path: "/"}
	wantMayWrite(t, "the root", impl.Server{Leases: []impl.Lease{leaseOf("/a", 2, 1)}}, q, 0)
	q.Path = ""
	wantMayWrite(t, "no path", impl.Server{Leases: []impl.Lease{leaseOf("/a", 2, 1)}}, q, impl.WrongHolder)
}

func TestMayWriteThatIsDrawn(t *testing.T) {
	d := draw(176)
	refused := map[int]int{}
	paths := append(ninePaths(), "/b", "/b/a", "/hall", "/a/b/c", "/9", "/zyxw987")
	for range 40000 {
		s := impl.Server{Up: d.below(2) == 0, Now: d.below(200)}
		for range d.below(10) {
			l := d.lease()
			if d.below(3) == 0 {
				l.Path = paths[d.below(len(paths))]
			}
			s.Leases = append(s.Leases, l)
		}
		q := d.ask(paths)
		if d.below(2) == 0 {
			q.Who = 1 + d.below(3)
		}
		want := plainMayWrite(s, q)
		wantMayWrite(t, "drawn", s, q, want)
		if want != 0 {
			refused[q.Kind]++
		}
	}
	for _, kind := range []int{impl.AskAppend, impl.AskClose, impl.AskMove, impl.AskDrop, impl.AskReopen} {
		if refused[kind] < 500 || refused[kind] > 3800 {
			t.Errorf("%d asks of the kind %d are refused", refused[kind], kind)
		}
	}
}

// What a server commits it has behind a restart: the test keeps all records that were committed.
func TestServersInDrawnLives(t *testing.T) {
	d := draw(177)
	done := map[string]int{}
	for range 60 {
		s := impl.ServerNew()
		var list []impl.Edit
		given := 0
		for range 40 {
			e := d.editNear(s.Tree)
			switch d.below(12) {
			case 0:
				s = wantBehindARestart(t, "a drawn life", s)
				list = append(list, editBoot())
				done["restarted"]++
			case 1:
				acts, ok := impl.LogActs(e)
				if _, code := impl.Apply(s.Tree, e, s.Groups); code != 0 || !ok {
					continue
				}
				given = max(given, impl.GroupsAfter(s.Tree, e, s.Groups))
				log, _ := impl.FileAt(s.Disk, "log")
				torn := fallen(s)
				torn.Disk, _ = impl.CutActs(s.Disk, acts, d.below(3), []int{len(log) + d.below(len(acts[0].Text)+3)})
				text, _ := impl.FileAt(torn.Disk, "log")
				if got, _ := impl.ReadLog(text); len(got) > len(list) {
					list = append(list, e)
					done["cut, and there"]++
				} else {
					done["cut, and gone"]++
				}
				s = mustRestart(t, "a drawn life, cut", torn)
				list = append(list, editBoot())
			default:
				next, code := impl.Commit(s, e)
				if code == 0 {
					s = mustCommit(t, "a drawn life", s, e)
					list = append(list, e)
					done["committed"]++
				} else {
					wantServer(t, "a drawn life, refused", next, s)
					done["refused"]++
				}
			}
			tree, groups := plainTree(list)
			want := impl.Server{Up: true, Tree: tree, Groups: groups, Disk: logAlone(logText(list...))}
			if len(list) == 0 {
				want.Disk = impl.Disk{}
			}
			wantServer(t, "a drawn life", s, want)
			if s.Groups < given {
				t.Fatalf("the group %d is given, and %d is next", given-1, s.Groups)
			}
		}
	}
	for what, least := range map[string]int{"restarted": 100, "cut, and there": 20, "cut, and gone": 20, "committed": 400, "refused": 300} {
		if done[what] < least {
			t.Errorf("too little was done: %s, of %v", what, done)
		}
	}
}

// server draws a server, of which what it has may be right or not.
func (d *draw) server() impl.Server {
	s := impl.Server{Up: d.below(2) == 0, Groups: 1 + d.below(200), Now: d.below(100)}
	switch d.below(8) {
	case 0:
		s.Groups = []int{0, -1, 98980, 98981, 98990, 99000, 99001, math.MaxInt, math.MinInt}[d.below(9)]
	case 1:
		s.Now = []int{-1, math.MaxInt, math.MinInt}[d.below(3)]
	}
	s.Tree = []impl.Tree{shed(), hall(), impl.TreeNew(), manyNodes(13), treeOfLogLife()}[d.below(5)]
	if d.below(10) == 0 {
		s.Tree = rowOf(5, false)
	}
	text := ""
	for range d.below(6) {
		text += d.logPiece()
	}
	if d.below(60) == 0 {
		text = fullLog(d.below(20))
	}
	files := manyFiles([]int{0, 1, 28, 29, 30}[d.below(5)]).Files
	if d.below(5) > 0 {
		files = append(files, file("log", text, d.below(len(text)+1)))
	}
	if d.below(4) == 0 {
		left := d.logPiece()
		files = append(files, file("log+", left, d.below(len(left)+1)))
	}
	s.Disk = diskOf(files...)
	for range d.below(5) {
		s.Leases = append(s.Leases, d.lease())
	}
	return s
}

func TestServersThatAreDrawn(t *testing.T) {
	d := draw(178)
	codes := map[int]int{}
	restarted := 0
	for range 8000 {
		s := d.server()
		e := d.editNear(treeOf(rootNode()))
		if plainTreeOk(s.Tree) && d.below(4) > 0 {
			e = d.editNear(s.Tree)
		}
		if d.below(10) == 0 {
			e = editBoot()
		}
		code, ok := wantAsPlainServer(t, "a drawn server", s, e, d.ask(ninePaths()))
		codes[code]++
		if ok {
			restarted++
		}
	}
	for code, least := range map[int]int{0: 500, impl.NotFound: 100, impl.BadEdit: 200, impl.Down: 3500} {
		if codes[code] < least {
			t.Errorf("too few of the code %d: %v", code, codes)
		}
	}
	if restarted < 1500 || restarted > 3500 {
		t.Errorf("%d of 8000 servers were restarted", restarted)
	}
}

// serversForMemory are servers of which records are taken, or refused, and which restart, or not.
func serversForMemory() map[string]impl.Server {
	torn := fallen(heldServer())
	torn.Disk = diskOf(file("log", logText(logLife()...)+"half", 3), file("log+", "left", 1), file("other", "words", 3))
	odd := heldServer()
	odd.Tree.Nodes[0].Name = "odd"
	wrong := fallen(heldServer())
	wrong.Disk.Files = append(wrong.Disk.Files, file("again", "words", 9))
	late := heldServer()
	late.Groups = 99000
	held := heldServer()
	held.Leases = leasesOf(9)
	return map[string]impl.Server{
		"Up": heldServer(), "not Up": fallen(heldServer()), "torn": torn, "a wrong tree": odd, "a wrong disk": wrong, "late": late, "nine leases": held,
		"new": impl.ServerNew(), "nothing": {},
	}
}

func recordsForMemory() []impl.Edit {
	return []impl.Edit{editMake("/hall"), editCreate("/e/door", 3), editMove("/e/h", "/gate"), editAdd("/e/h/g", 40), editDrop("/e/h"), editBoot(), editMake("/e"), editMake("/hall/"), {}}
}

// answersOfServers are all servers that the chapter's functions answer.
func answersOfServers(s impl.Server, e impl.Edit) map[string]impl.Server {
	after, _ := impl.Commit(s, e)
	risen, _ := impl.Restart(s)
	return map[string]impl.Server{"Commit": after, "Restart": risen, "ServerNew": impl.ServerNew()}
}

// textsOfServer are all its texts that need memory.
func textsOfServer(s impl.Server) []string {
	var texts []string
	for _, node := range s.Tree.Nodes {
		texts = append(texts, node.Name)
	}
	for _, f := range s.Disk.Files {
		texts = append(texts, f.Name, f.Text)
	}
	for _, l := range s.Leases {
		texts = append(texts, l.Path)
	}
	return slices.DeleteFunc(texts, func(text string) bool { return len(text) < 2 })
}

// ownServer has all its texts in memory of their own.
func ownServer(s impl.Server) impl.Server {
	s = cloneServer(s)
	for i := range s.Tree.Nodes {
		s.Tree.Nodes[i].Name = ownText(s.Tree.Nodes[i].Name)
	}
	for i, f := range s.Disk.Files {
		s.Disk.Files[i] = file(ownText(f.Name), ownText(f.Text), f.Kept)
	}
	for i := range s.Leases {
		s.Leases[i].Path = ownText(s.Leases[i].Path)
	}
	return s
}

func scribbleServer(s impl.Server) {
	scribbleTree(s.Tree)
	files := s.Disk.Files[:cap(s.Disk.Files)]
	for i := range files {
		files[i] = file("scribble", "scribble", -1)
	}
	scribbleLeases(s.Leases)
}

func TestAnswersOfServersAreNewMemory(t *testing.T) {
	for what, s := range serversForMemory() {
		for _, e := range recordsForMemory() {
			s := ownServer(s)
			e.Path, e.To = ownText(e.Path), ownText(e.To)
			handed := append(textsOfServer(s), e.Path, e.To)
			for name, after := range answersOfServers(s, e) {
				// Of the answer's own texts the names of files may be told by a constant more than once.
				for _, text := range textsOfServer(after) {
					wantNewTexts(t, fmt.Sprintf("%s, %s", what, name), []string{text}, handed)
				}
			}
		}
	}
	for _, rule := range askRules() {
		for _, kind := range []int{rule.kind, 0, 11} {
			q := rule.right()
			q.Kind, q.Path, q.To, q.Text = kind, ownText(q.Path), ownText("/gate/far"), ownText("words")
			e := impl.EditOf(q)
			texts := slices.DeleteFunc([]string{e.Path, e.To}, func(text string) bool { return text == "" })
			wantNewTexts(t, "EditOf", texts, []string{q.Path, q.To, q.Text})
		}
	}
}

// roomyServer has spare room behind each of its lists, and tells whether one of them was written into.
func roomyServer(s impl.Server) (impl.Server, func() impl.Server) {
	s.Tree.Nodes = spare(cloneTree(s.Tree).Nodes, impl.Inode{Id: 44, Name: "mark"})
	for i := range s.Tree.Nodes {
		s.Tree.Nodes[i].Pieces = spare(s.Tree.Nodes[i].Pieces, impl.Piece{Group: 44, Len: 4})
	}
	s.Disk.Files = spare(s.Disk.Files, file("mark", "mark", 4))
	s.Leases = spare(s.Leases, leaseOf("/mark", 4, 44))
	whole := func() impl.Server {
		all := s
		all.Tree.Nodes = slices.Clone(s.Tree.Nodes[:len(s.Tree.Nodes)+3])
		for i := range s.Tree.Nodes {
			pieces := s.Tree.Nodes[i].Pieces
			all.Tree.Nodes[i].Pieces = slices.Clone(pieces[:len(pieces)+3])
		}
		all.Disk.Files = slices.Clone(s.Disk.Files[:len(s.Disk.Files)+3])
		all.Leases = slices.Clone(s.Leases[:len(s.Leases)+3])
		return all
	}
	return s, whole
}

func TestServersAreNotWrittenInto(t *testing.T) {
	for what, s := range serversForMemory() {
		for _, e := range recordsForMemory() {
			roomy, whole := roomyServer(s)
			before := whole()
			for name, after := range answersOfServers(roomy, e) {
				wantServer(t, what+", "+name+", what was handed in", whole(), before)
				scribbleServer(after)
				wantServer(t, what+", "+name+", behind the answer is written over", whole(), before)
			}
			for _, rule := range askRules() {
				q := rule.right()
				q.Path = max(e.Path, "/")
				impl.MayWrite(roomy, q)
				impl.AskOk(q)
				impl.EditOf(q)
			}
			wantServer(t, what+", what was handed in", whole(), before)
		}
	}
}

func TestTextsOfAsksAreNotWrittenInto(t *testing.T) {
	for _, rule := range askRules() {
		path, to, text := []byte("/hallbehind"), []byte("/doorbehind"), []byte("wordsbehind")
		q := rule.right()
		q.Path, q.To, q.Text = unsafe.String(&path[0], 5), unsafe.String(&to[0], 5), unsafe.String(&text[0], 5)
		e := impl.EditOf(q)
		impl.AskOk(q)
		impl.MayWrite(heldServer(), q)
		if string(path) != "/hallbehind" || string(to) != "/doorbehind" || string(text) != "wordsbehind" {
			t.Errorf("the kind %d: a text, or what is behind it, is written into: %q, %q, %q", rule.kind, path, to, text)
		}
		clear(path)
		clear(to)
		clear(text)
		want := plainEditOf(impl.Ask{Kind: rule.kind, Who: q.Who, Path: "/hall", To: "/door", Text: "words", Num: q.Num})
		if e != want {
			t.Errorf("the kind %d, written over: EditOf = %+v, want %+v", rule.kind, e, want)
		}
	}
	for _, e := range recordsForMemory() {
		path, to := []byte(e.Path+"behind"), []byte(e.To+"behind")
		seen := e
		seen.Path, seen.To = unsafe.String(&path[0], len(e.Path)), unsafe.String(&to[0], len(e.To))
		after, code := impl.Commit(heldServer(), seen)
		clear(path)
		clear(to)
		want, wantCode := plainCommit(heldServer(), e)
		if code != wantCode {
			t.Errorf("Commit of %+v has the code %d, want %d", e, code, wantCode)
		}
		wantServer(t, "a record written over", after, want)
	}
}

// Nothing is kept from call to call: an answer that is written over is told anew.
func TestServersAreToldAlikeEachTime(t *testing.T) {
	for what, s := range serversForMemory() {
		for range 10 {
			for i, e := range recordsForMemory() {
				wantAsPlainServer(t, what, s, e, askRules()[i].right())
				for _, after := range answersOfServers(s, e) {
					scribbleServer(after)
				}
			}
		}
	}
}

func TestServersAreToldAlikeToAllAtOnce(t *testing.T) {
	servers := serversForMemory()
	var callers sync.WaitGroup
	for range 8 {
		callers.Go(func() {
			for what, s := range servers {
				for _, e := range recordsForMemory() {
					got, code := impl.Commit(s, e)
					want, wantCode := plainCommit(s, e)
					if code != wantCode || !sameServer(got, want) {
						t.Errorf("%s: at once with others Commit of %+v has the code %d", what, e, code)
					}
					risen, ok := impl.Restart(s)
					own, wantOk := plainRestart(s)
					if ok != wantOk || !sameServer(risen, own) {
						t.Errorf("%s: at once with others Restart is %v", what, ok)
					}
					for _, rule := range askRules() {
						q := rule.right()
						if impl.EditOf(q) != plainEditOf(q) || impl.MayWrite(s, q) != plainMayWrite(s, q) {
							t.Errorf("%s: at once with others the kind %d is another one", what, rule.kind)
						}
					}
				}
			}
		})
	}
	callers.Wait()
}

func TestNoCallOnServersPanics(t *testing.T) {
	far := []int{math.MinInt, math.MinInt + 1, -20, -1, 0, 1, 10, 11, 98981, 99000, 99001, math.MaxInt - 20, math.MaxInt}
	texts := []string{"", "/", "/far", "/far/", "far", "\xff\xfe", allBytes(), strings.Repeat("/a", 10001)}
	for _, number := range far {
		for _, other := range far {
			for i, p := range texts {
				q := impl.Ask{Kind: number, Who: other, Path: p, To: texts[(i+1)%len(texts)], Text: texts[(i+3)%len(texts)], Num: number}
				wantAsk(t, "far numbers", q, plainAskOk(q))
				e := impl.Edit{Kind: number, Path: p, To: texts[(i+1)%len(texts)], Num: other, Who: number}
				s := impl.Server{Up: i%2 == 0, Groups: number, Now: other, Leases: []impl.Lease{leaseOf(p, number, other), {}}}
				wantAsPlainServer(t, "far numbers", s, e, q)
				s.Tree, s.Disk = shed(), threeFiles()
				wantAsPlainServer(t, "far numbers", s, editBoot(), q)
				s.Tree = impl.Tree{Nodes: []impl.Inode{{Id: number, Parent: other, Name: p, Len: number, Pieces: []impl.Piece{{Group: other, Len: number}}}}, Next: other}
				s.Disk = diskOf(file(p, texts[(i+1)%len(texts)], number), file("log", p, other))
				wantAsPlainServer(t, "far numbers", s, editMake("/far"), q)
			}
		}
	}
	for kind := range 12 {
		for _, p := range texts {
			for _, to := range texts {
				q := impl.Ask{Kind: kind, Who: 1, Path: p, To: to, Text: to}
				wantAsk(t, "texts of any bytes", q, plainAskOk(q))
				wantAsPlainServer(t, "texts of any bytes", heldServer(), impl.Edit{Kind: kind, Path: p, To: to}, q)
			}
		}
	}
}

func TestServersOfManyThings(t *testing.T) {
	s := impl.Server{Up: true, Tree: manyNodes(3000), Groups: 1, Disk: manyFiles(3000)}
	for n := range 3000 {
		s.Leases = append(s.Leases, leaseOf(fmt.Sprintf("/%04d", n), 1+n%9, n%200))
	}
	for _, s := range []impl.Server{s, fallen(s)} {
		for _, kind := range []int{1, 3, 5, 6, 10} {
			wantAsPlainServer(t, "many things", s, editMake("/x"), impl.Ask{Kind: kind, Who: 3, Path: "/1500"})
			wantAsPlainServer(t, "many things", s, editBoot(), impl.Ask{Kind: kind, Who: 3, Path: ""})
		}
	}
}
