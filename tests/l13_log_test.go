package tests

import (
	"fmt"
	"slices"
	"strings"
	"testing"
	"unsafe"

	"loop.example/g00197/impl"
)

// logOf is the log of these records in the document's own words, and the place behind each of them.
func logOf(list ...impl.Edit) (string, []int) {
	file := ""
	var ends []int
	for _, e := range list {
		file += frameByBits(editByBytes(e))
		ends = append(ends, len(file))
	}
	return file, ends
}

func logText(list ...impl.Edit) string {
	file, _ := logOf(list...)
	return file
}

// logAlone is a disk with nothing but this log, all of it kept.
func logAlone(text string) impl.Disk {
	return diskOf(file("log", text, len(text)))
}

// plainReadLog is ReadLog in the document's own words. No text of a record is so long that its
// length is more than one byte.
func plainReadLog(file string) ([]impl.Edit, int) {
	var list []impl.Edit
	at := 0
	for len(file) <= 20000 && at < len(file) {
		from := at + 5
		end := from + int(file[at])
		if end > len(file) || end == from || frameByBits(file[from:end]) != file[at:end] {
			break
		}
		e, ok := plainReadEdit(file[from:end])
		if !ok {
			break
		}
		list = append(list, e)
		at = end
	}
	return list, at
}

// recovery is what Recover tells of a right disk.
type recovery struct {
	tree   impl.Tree
	groups int
	acts   []impl.Act
}

func plainTree(list []impl.Edit) (impl.Tree, int) {
	tree, groups := impl.Tree{Nodes: []impl.Inode{rootNode()}, Next: 2}, 1
	for _, e := range list {
		tree, groups, _ = plainApply(tree, e, groups)
	}
	return tree, groups
}

// rewrite are the acts that put this text in the place of a log.
func rewrite(text string) []impl.Act {
	return []impl.Act{add("log+", text), act(impl.ActKeep, "log+"), move("log+", "log")}
}

func plainRecover(d impl.Disk) recovery {
	var out recovery
	log := ""
	for _, f := range d.Files {
		switch f.Name {
		case "log":
			log = f.Text
		case "log+":
			out.acts = append(out.acts, act(impl.ActDrop, "log+"))
		}
	}
	list, end := plainReadLog(log)
	if end < len(log) {
		out.acts = append(out.acts, rewrite(log[:end])...)
	}
	out.tree, out.groups = plainTree(list)
	return out
}

func recordActs(t *testing.T, e impl.Edit) []impl.Act {
	t.Helper()
	acts, ok := impl.LogActs(e)
	if !ok {
		t.Fatalf("LogActs(%+v) is false", e)
	}
	return acts
}

// committed is the disk behind the acts of these records.
func committed(t *testing.T, d impl.Disk, list ...impl.Edit) impl.Disk {
	t.Helper()
	for _, e := range list {
		acts := recordActs(t, e)
		next, done := impl.DoActs(d, acts)
		if done != len(acts) {
			t.Fatalf("of the acts of %+v just %d are done", e, done)
		}
		d = next
	}
	return d
}

// inShort tells of a long answer how it begins.
func inShort(v any) string {
	return fmt.Sprintf("%.300s", fmt.Sprintf("%+q", v))
}

func wantLog(t *testing.T, what, file string, list []impl.Edit, end int) {
	t.Helper()
	got, at := impl.ReadLog(file)
	if !slices.Equal(got, list) || at != end {
		t.Fatalf("%s: ReadLog of %d bytes tells %d records up to %d, want %d up to %d: %s", what, len(file), len(got), at, len(list), end, inShort(got))
	}
}

func wantRecovered(t *testing.T, what string, d impl.Disk, want recovery) {
	t.Helper()
	tree, groups, acts, ok := impl.Recover(d)
	if !ok {
		t.Fatalf("%s: Recover of %s is false", what, tell(d))
	}
	if !sameTree(tree, want.tree) || groups != want.groups {
		t.Fatalf("%s: Recover tells %+v, %d, want %+v, %d", what, tree, groups, want.tree, want.groups)
	}
	if !slices.Equal(acts, want.acts) {
		t.Fatalf("%s: Recover of %s tells the acts %s, want %s", what, tell(d), inShort(acts), inShort(want.acts))
	}
}

// wantMended tells what is recovered of a right disk that has room, and does the acts that mend it:
// behind them the log is the records alone, nothing else is another one, and what is committed then
// is read.
func wantMended(t *testing.T, what string, d impl.Disk) {
	t.Helper()
	want := plainRecover(d)
	wantRecovered(t, what, d, want)
	before, _ := impl.FileAt(d, "log")
	list, end := plainReadLog(before)
	wantLog(t, what, before, list, end)

	_, _, acts, _ := impl.Recover(d)
	mended, done := impl.DoActs(d, acts)
	if done != len(acts) {
		t.Fatalf("%s: of the acts that mend %s just %d of %d are done", what, tell(d), done, len(acts))
	}
	after, _ := impl.FileAt(mended, "log")
	if after != before[:end] {
		t.Errorf("%s: the mended log has %d bytes, want the first %d", what, len(after), end)
	}
	wantLog(t, what+", mended", after, list, len(after))
	wantRecovered(t, what+", mended", mended, recovery{tree: want.tree, groups: want.groups})
	if !sameDisk(withoutLog(mended), withoutLog(d)) {
		t.Errorf("%s: mending changes other files: %s, not %s", what, tell(mended), tell(d))
	}
	next := committed(t, mended, editBoot())
	log, _ := impl.FileAt(next, "log")
	wantLog(t, what+", mended, and a record more", log, append(list, editBoot()), len(log))
}

func withoutLog(d impl.Disk) impl.Disk {
	return diskOf(slices.DeleteFunc(slices.Clone(d.Files), func(f impl.File) bool { return f.Name == "log" || f.Name == "log+" })...)
}

// logLife has records of each kind; the tree refuses three of them.
func logLife() []impl.Edit {
	return []impl.Edit{
		editMake("/d"), editCreate("/d/f", 3), editSchema("/d", 3), editCreate("/d/g", 1), editAdd("/d/f", 20), editAdd("/d/g", 33),
		editBoot(), editAdd("/d/f", 1), editQuota("/", 60), editClose("/d/f"), editAdd("/d/f", 1), editOpen("/d/f", 9), editMake("/d"),
		editMake("/e"), editMove("/d", "/e/h"), editDrop("/e/h/f"), editAdd("/e/h/g", 200), editBoot(), editAdd("/e/h/g", 2),
	}
}

func treeOfLogLife() impl.Tree {
	g := written(fileNode(4, 2, "g", 3), 1)
	g.Len, g.Pieces = 35, []impl.Piece{{Group: 3, Len: 32}, {Group: 4, Len: 1}, {Group: 46, Len: 2}}
	return impl.Tree{Nodes: []impl.Inode{limited(rootNode(), 60), ofSchema(dirNode(2, 5, "h"), 3), g, dirNode(5, 1, "e")}, Next: 6}
}

// noRecordTexts are texts of right frames that are no records.
func noRecordTexts() map[string]string {
	right := editByBytes(editMake("/d"))
	long := editByBytes(editMake("/" + strings.Repeat("a", 126)))
	return map[string]string{
		"a byte 0":             "\x00",
		"a byte 1":             "\x01",
		"words":                "none",
		"a record cut":         right[:len(right)-1],
		"a record and a byte":  right + "\x00",
		"a byte and a record":  "\x00" + right,
		"two records":          right + right,
		"a frame of a record":  logText(editMake("/d")),
		"the kind 0":           editByBytes(impl.Edit{Path: "/d"}),
		"the kind 11":          editByBytes(impl.Edit{Kind: 11, Path: "/"}),
		"no path":              editByBytes(impl.Edit{Kind: impl.EdMake}),
		"a path without names": editByBytes(editMake("/")),
		"a path that is none":  editByBytes(editMake("/d/")),
		"a name in capitals":   editByBytes(editMake("/D")),
		"a To too many":        editByBytes(impl.Edit{Kind: impl.EdMake, Path: "/d", To: "/e"}),
		"no To":                editByBytes(editMove("/d", "")),
		"no Who":               editByBytes(editCreate("/d", 0)),
		"a Who too great":      editByBytes(editCreate("/d", 10)),
		"a Num too great":      editByBytes(editAdd("/d", 201)),
		"a Num too small":      editByBytes(editAdd("/d", 0)),
		"a boot of a path":     editByBytes(impl.Edit{Kind: impl.EdBoot, Path: "/d"}),
		"a long name":          long,
		"many bytes":           strings.Repeat("x", 9000),
	}
}

func wrongEdits() []impl.Edit {
	wrong := []impl.Edit{{}, {Path: "/"}, {Kind: impl.EdMake}, {Kind: impl.EdBoot}, {Kind: impl.EdMove, To: "/d"}}
	for _, rule := range editRules() {
		for _, far := range append(outOfRange(1001), 4, 10, 11, 201) {
			for field := range 3 {
				e := rule.right()
				*[]*int{&e.Kind, &e.Num, &e.Who}[field] = far
				wrong = append(wrong, e)
			}
		}
		for _, text := range append([]string{"/", "/x", ""}, "/a/b/c/d/e", "a", "//", "/A", "/a/", strings.Repeat("/a", 9000)) {
			e := rule.right()
			e.Path = text
			f := rule.right()
			f.To = text
			wrong = append(wrong, e, f)
		}
	}
	return slices.DeleteFunc(wrong, plainEditOk)
}

func TestNameOfTheLog(t *testing.T) {
	if impl.NameLog != "log" {
		t.Errorf("the log is named %q", impl.NameLog)
	}
}

func TestActsOfRecords(t *testing.T) {
	for _, c := range []struct {
		e    impl.Edit
		text string
	}{
		{editMake("/d"), "\x01\x00\x02/d\x00\x00"},
		{editCreate("/d/f", 3), "\x02\x03\x04/d/f\x00\x00"},
		{editMove("/d", "/e/h"), "\x03\x00\x02/d\x04/e/h\x00"},
		{editDrop("/d"), "\x04\x00\x02/d\x00\x00"},
		{editSchema("/", 2), "\x05\x00\x01/\x00\x02"},
		{editQuota("/d", 1000), "\x06\x00\x02/d\x00\xe8\x07"},
		{editAdd("/d/f", 200), "\x07\x00\x04/d/f\x00\xc8\x01"},
		{editClose("/d/f"), "\x08\x00\x04/d/f\x00\x00"},
		{editOpen("/d/f", 9), "\x09\x09\x04/d/f\x00\x00"},
		{editBoot(), "\x0a\x00\x01/\x00\x00"},
	} {
		want := []impl.Act{add("log", frameByBits(c.text)), act(impl.ActKeep, "log")}
		if got := recordActs(t, c.e); !slices.Equal(got, want) {
			t.Errorf("LogActs(%+v) = %s, want %s", c.e, inShort(got), inShort(want))
		}
	}
	for _, e := range someEdits() {
		want := []impl.Act{add("log", logText(e)), act(impl.ActKeep, "log")}
		if got := recordActs(t, e); !slices.Equal(got, want) {
			t.Errorf("LogActs(%+v) = %s, want %s", e, inShort(got), inShort(want))
		}
	}
}

func TestALogRecordByRecord(t *testing.T) {
	other := diskOf(file("a", "ahead", 2), file("loh", "behind", 0))
	for _, d := range []impl.Disk{{}, logAlone(""), other} {
		beside := withoutLog(d)
		list := logLife()
		for i, e := range list {
			d = committed(t, d, e)
			log, _ := impl.FileAt(d, "log")
			if log != logText(list[:i+1]...) {
				t.Fatalf("the log of %d records is %q", i+1, log)
			}
			wantLog(t, "a life", log, list[:i+1], len(log))
			tree, groups := impl.ApplyAll(impl.TreeNew(), list[:i+1], 1)
			wantRecovered(t, "a life", d, recovery{tree: tree, groups: groups})
			tree, groups = plainTree(list[:i+1])
			wantRecovered(t, "a life, by the test's own", d, recovery{tree: tree, groups: groups})
			if !sameDisk(withoutLog(d), beside) {
				t.Errorf("other files are changed: %s", tell(d))
			}
		}
		wantRecovered(t, "the end of a life", d, recovery{tree: treeOfLogLife(), groups: 47})
		wantMended(t, "the end of a life", d)
		if i := slices.IndexFunc(d.Files, func(f impl.File) bool { return f.Name == "log" }); d.Files[i].Kept != len(d.Files[i].Text) {
			t.Errorf("of the log is kept %d alone", d.Files[i].Kept)
		}
	}
}

func TestALogOfEachRecord(t *testing.T) {
	for _, e := range someEdits() {
		d := committed(t, impl.Disk{}, e)
		log, _ := impl.FileAt(d, "log")
		wantLog(t, "one record", log, []impl.Edit{e}, len(log))
		wantRecovered(t, "one record", d, plainRecover(d))
	}
	d := draw(130)
	for range 50 {
		var list []impl.Edit
		for range d.below(8) {
			list = append(list, d.edit())
		}
		disk := committed(t, impl.Disk{}, list...)
		log, _ := impl.FileAt(disk, "log")
		wantLog(t, "drawn records", log, list, len(log))
		wantRecovered(t, "drawn records", disk, plainRecover(disk))
	}
}

func TestALogThatIsNotThere(t *testing.T) {
	fresh := recovery{tree: impl.Tree{Nodes: []impl.Inode{rootNode()}, Next: 2}, groups: 1}
	log := logText(logLife()...)
	for what, d := range map[string]impl.Disk{
		"nothing":        {},
		"an empty list":  {Files: []impl.File{}},
		"an empty log":   logAlone(""),
		"other files":    threeFiles(),
		"names near it":  diskOf(file("LOG", log, 1), file("lo", log, 1), file("log ", log, 1), file("log-", log, 1), file("logs", log, 1), file("lög", log, 1)),
		"as many as may": manyFiles(impl.MaxFiles),
	} {
		wantRecovered(t, what, d, fresh)
	}
	wantLog(t, "nothing", "", nil, 0)
}

// A record that the tree refuses stays in the log, also through a mending.
func TestRefusedRecordsStayInTheLog(t *testing.T) {
	refused := []impl.Edit{editMake("/x/y"), editDrop("/x"), editAdd("/x", 5), editMove("/x", "/y"), editClose("/x"), editOpen("/x", 1), editCreate("/x/y", 1), editSchema("/x", 1), editQuota("/x", 1)}
	fresh := recovery{tree: impl.TreeNew(), groups: 1}
	d := committed(t, impl.Disk{}, refused...)
	log, _ := impl.FileAt(d, "log")
	wantLog(t, "all refused", log, refused, len(log))
	wantRecovered(t, "all refused", d, fresh)
	fresh.acts = rewrite(log)
	wantRecovered(t, "all refused, and a byte", logAlone(log+"x"), fresh)
	wantMended(t, "all refused, and a byte", logAlone(log+"x"))

	var mixed []impl.Edit
	for _, e := range logLife() {
		mixed = append(mixed, refused...)
		mixed = append(mixed, e)
	}
	d = committed(t, impl.Disk{}, mixed...)
	log, _ = impl.FileAt(d, "log")
	wantLog(t, "refused ones between others", log, mixed, len(log))
	wantRecovered(t, "refused ones between others", d, recovery{tree: treeOfLogLife(), groups: 47})
}

// Past 99000 groups each record is refused, but it is read.
func TestALogOfManyBoots(t *testing.T) {
	list := slices.Repeat([]impl.Edit{editBoot()}, 1800)
	log := logText(list...)
	wantLog(t, "boots", log, list, len(log))
	wantRecovered(t, "boots", logAlone(log), recovery{tree: impl.TreeNew(), groups: 1 + 20*1800})
}

func TestALogCutAtEachByte(t *testing.T) {
	list := logLife()
	log, ends := logOf(list...)
	for cut := range len(log) + 1 {
		whole, end := 0, 0
		for whole < len(ends) && ends[whole] <= cut {
			end = ends[whole]
			whole++
		}
		what := fmt.Sprintf("cut at %d", cut)
		wantLog(t, what, log[:cut], list[:whole], end)
		tree, groups := impl.ApplyAll(impl.TreeNew(), list[:whole], 1)
		want := recovery{tree: tree, groups: groups}
		if cut > end {
			want.acts = rewrite(log[:end])
		}
		wantRecovered(t, what, logAlone(log[:cut]), want)
		if cut > ends[len(ends)-3] {
			wantMended(t, what, logAlone(log[:cut]))
		}
	}
}

func TestALogWithBytesTurned(t *testing.T) {
	list := logLife()[:7]
	log, ends := logOf(list...)
	at := 0
	for i, end := range ends {
		for ; at < end; at++ {
			for _, bits := range []byte{1, 2, 16, 128, 255} {
				from := end - len(logText(list[i]))
				what := fmt.Sprintf("turned at %d by %d", at, bits)
				wantLog(t, what, turned(log, at, bits), list[:i], from)
				if bits == 1 {
					tree, groups := impl.ApplyAll(impl.TreeNew(), list[:i], 1)
					wantRecovered(t, what, logAlone(turned(log, at, bits)), recovery{tree: tree, groups: groups, acts: rewrite(log[:from])})
					wantMended(t, what, logAlone(turned(log, at, bits)))
				}
			}
		}
	}
}

// A frame may be whole and yet no record: reading ends ahead of it, and mending takes it away.
func TestFramesThatAreNoRecords(t *testing.T) {
	list := []impl.Edit{editMake("/d"), editCreate("/d/f", 3), editAdd("/d/f", 20)}
	log := logText(list...)
	behind := logText(editMake("/x"), editBoot())
	for what, text := range noRecordTexts() {
		none := frameByBits(text)
		if records, end := impl.Unframe(none); len(records) != 1 || end != len(none) {
			t.Fatalf("%s: no whole frame", what)
		}
		for _, rest := range []string{"", behind, none, "\x00", none + behind} {
			for n := range len(list) + 1 {
				ahead := logText(list[:n]...)
				file := ahead + none + rest
				wantLog(t, what, file, list[:n], len(ahead))
				tree, groups := impl.ApplyAll(impl.TreeNew(), list[:n], 1)
				wantRecovered(t, what, logAlone(file), recovery{tree: tree, groups: groups, acts: rewrite(ahead)})
			}
		}
		wantMended(t, what, logAlone(log+none+behind))
		wantMended(t, what, logAlone(none))
	}
}

func TestBytesBehindTheLastRecord(t *testing.T) {
	list := logLife()
	log := logText(list...)
	next := logText(editMake("/x"))
	long := frameByBits(strings.Repeat("x", 200))
	rests := []string{"x", "\x00", "\xff", "\x01", "\n", strings.Repeat("\x00", 5), strings.Repeat("\x00", 64), strings.Repeat("\x00", 4096), allBytes(), log[1:], "\x00" + next, next[1:], long[:100], long}
	for cut := 1; cut < len(next); cut++ {
		rests = append(rests, next[:cut], next[:cut]+next)
		// The last two bytes of the frame are zeros themselves.
		if cut < len(next)-2 {
			rests = append(rests, next[:cut]+strings.Repeat("\x00", len(next)-cut))
		}
	}
	for _, rest := range rests {
		what := fmt.Sprintf("with %.20q behind it", rest)
		wantLog(t, what, log+rest, list, len(log))
		wantRecovered(t, what, logAlone(log+rest), recovery{tree: treeOfLogLife(), groups: 47, acts: rewrite(log)})
		wantMended(t, what, logAlone(log+rest))
	}
}

func TestALogOfWhichNothingIsARecord(t *testing.T) {
	right := logText(editMake("/d"), editBoot())
	for _, text := range []string{"x", "\x00", "none", strings.Repeat("\x00", 300), right[1:], "\x00" + right, turned(right, 0, 1), turned(right, 3, 1), right[:4], frameByBits("none") + right, strings.Repeat("x", impl.MaxText)} {
		what := fmt.Sprintf("%.20q", text)
		wantLog(t, what, text, nil, 0)
		d := logAlone(text)
		wantRecovered(t, what, d, recovery{tree: impl.TreeNew(), groups: 1, acts: rewrite("")})
		wantMended(t, what, d)
		_, _, acts, _ := impl.Recover(d)
		if mended, _ := impl.DoActs(d, acts); !sameDisk(mended, logAlone("")) {
			t.Errorf("%s: mended to %s", what, tell(mended))
		}
	}
}

// What a fall left of mending is dropped, whatever it is, ahead of all else.
func TestWhatIsLeftOfMending(t *testing.T) {
	list := logLife()
	log := logText(list...)
	drop := []impl.Act{act(impl.ActDrop, "log+")}
	for _, left := range []impl.File{file("log+", "", 0), file("log+", "x", 0), file("log+", log, len(log)), file("log+", log, 3), file("log+", log[:50], 50), file("log+", logText(editMake("/x")), 4)} {
		whole := recovery{tree: treeOfLogLife(), groups: 47, acts: drop}
		d := diskOf(file("log", log, len(log)), left)
		wantRecovered(t, "a whole log", d, whole)
		wantMended(t, "a whole log", d)

		whole.acts = append(slices.Clone(drop), rewrite(log)...)
		d = diskOf(file("k", "other", 2), file("log", log+"\x00", len(log)), left, file("z", "other", 5))
		wantRecovered(t, "a byte behind the log", d, whole)
		wantMended(t, "a byte behind the log", d)

		fresh := recovery{tree: impl.TreeNew(), groups: 1, acts: drop}
		for _, d := range []impl.Disk{diskOf(left), diskOf(file("log", "", 0), left)} {
			wantRecovered(t, "no log", d, fresh)
			wantMended(t, "no log", d)
		}
		fresh.acts = append(slices.Clone(drop), rewrite("")...)
		d = diskOf(file("log", "none", 4), left)
		wantRecovered(t, "nothing is a record", d, fresh)
		wantMended(t, "nothing is a record", d)
	}
}

// What is not yet kept is read as well: the power did not go.
func TestALogThatIsNotKept(t *testing.T) {
	log := logText(logLife()...)
	for kept := range len(log) + 1 {
		wantRecovered(t, "not kept", diskOf(file("log", log, kept)), recovery{tree: treeOfLogLife(), groups: 47})
	}
}

// A disk that is full has no room for another file. What mends is told in the document's words all
// the same.
func TestMendingAFullDisk(t *testing.T) {
	log := logText(logLife()...)
	full := append(slices.Clone(manyFiles(impl.MaxFiles-1).Files), file("log", log+"x", 0))
	d := diskOf(full...)
	want := recovery{tree: treeOfLogLife(), groups: 47, acts: rewrite(log)}
	wantRecovered(t, "a full disk", d, want)
	if after, done := impl.DoActs(d, want.acts); done != 0 || !sameDisk(after, d) {
		t.Errorf("%d acts are done on a full disk: %s", done, tell(after))
	}
	wantMended(t, "a disk with room for one", diskOf(full[1:]...))
	wantMended(t, "a full disk with what is left of mending", diskOf(append(slices.Clone(full[1:]), file("log+", "left", 4))...))
	wantMended(t, "a full disk with a whole log", diskOf(append(slices.Clone(full[:29]), file("log", log, 0))...))
}

// logOfSize is a log of just this many bytes: the frame of such a record has ten bytes and its path.
func logOfSize(size int) ([]impl.Edit, string) {
	var list []impl.Edit
	for ; size >= 24; size -= 12 {
		list = append(list, editMake("/a"))
	}
	p := "/b2345678"
	if size-10 > len(p) {
		p = "/b234/c234567"
	}
	list = append(list, editMake(p[:size-10]))
	return list, logText(list...)
}

func TestLogsAtTheLimit(t *testing.T) {
	for _, size := range []int{19, 500, impl.MaxText - 1, impl.MaxText} {
		list, log := logOfSize(size)
		if len(log) != size {
			t.Fatalf("a log of %d bytes has %d", size, len(log))
		}
		wantLog(t, "a long log", log, list, size)
		tree, groups := impl.ApplyAll(impl.TreeNew(), list, 1)
		wantRecovered(t, "a long log", logAlone(log), recovery{tree: tree, groups: groups})
		wantLog(t, "a long log, torn", log[:size-1], list[:len(list)-1], size-len(logText(list[len(list)-1])))
	}
	list, log := logOfSize(impl.MaxText - 1)
	wantLog(t, "a byte behind a long log", log+"x", list, impl.MaxText-1)
	wantMended(t, "a long log, torn", logAlone(log[:impl.MaxText-30]))
	// No frames are read of a file that is longer.
	_, log = logOfSize(impl.MaxText + 1)
	wantLog(t, "a log too long", log, nil, 0)
	_, log = logOfSize(impl.MaxText)
	wantLog(t, "a byte too many", log+"x", nil, 0)
	wantLog(t, "much too long", strings.Repeat(log, 5), nil, 0)
}

func TestLogsOfBytesThatAreNone(t *testing.T) {
	wantLog(t, "an empty file", "", nil, 0)
	for b := range 256 {
		one := string([]byte{byte(b)})
		wantLog(t, "one byte", one, nil, 0)
		wantMended(t, "one byte", logAlone(one))
		for _, length := range []int{2, 5, 6, 7, 12, 200, impl.MaxText, impl.MaxText + 1} {
			wantLog(t, "one byte again and again", strings.Repeat(one, length), nil, 0)
		}
	}
	for _, length := range []int{impl.MaxText, impl.MaxText + 1, 100000} {
		wantLog(t, "drawn bytes", drawn(131, length), nil, 0)
	}
	wantMended(t, "drawn bytes", logAlone(drawn(132, impl.MaxText)))
}

func TestRecordsThatAreNotRightHaveNoActs(t *testing.T) {
	wrong := wrongEdits()
	if len(wrong) < 100 {
		t.Fatalf("there are %d wrong records", len(wrong))
	}
	for _, e := range wrong {
		if acts, ok := impl.LogActs(e); ok || len(acts) != 0 {
			t.Errorf("LogActs of the kind %d, %.40q, %.40q, %d, %d = %+v, %t", e.Kind, e.Path, e.To, e.Num, e.Who, acts, ok)
		}
	}
}

func TestDisksThatAreNotRightAreNotRecovered(t *testing.T) {
	log := logText(logLife()...)
	disks := wrongDisks()
	disks["a log kept past its end"] = diskOf(file("log", log, len(log)+1))
	disks["a log kept below 0"] = diskOf(file("log", log, -1))
	disks["two logs"] = diskOf(file("log", log, 0), file("log", log, 0))
	disks["what is left of mending ahead of the log"] = diskOf(file("log+", log, 0), file("log", log, 0))
	disks["a long name behind the log"] = diskOf(file("log", log, 0), file("log+23456", "", 0))
	disks["a log too long"] = logAlone(strings.Repeat(log, 1+impl.MaxText/len(log)))
	disks["a log and too many others"] = diskOf(append(manyFiles(impl.MaxFiles).Files, file("log", log, 0))...)
	disks["a log and a file that is too long"] = diskOf(file("log", log, 0), file("m", strings.Repeat("x", impl.MaxText+1), 0))
	for what, d := range disks {
		tree, groups, acts, ok := impl.Recover(d)
		if ok || groups != 0 || len(acts) != 0 || len(tree.Nodes) != 0 || tree.Next != 0 {
			t.Errorf("%s: Recover = %+v, %d, %s, %t", what, tree, groups, inShort(acts), ok)
		}
	}
}

// Whatever the power leaves of a record's acts, the record is there whole or not at all, and those
// ahead of it are there.
func TestThePowerGoesInARecordsActs(t *testing.T) {
	list := logLife()
	d := diskOf(file("a", "ahead", 2), file("m", "behind", 0))
	for i, e := range list {
		acts := recordActs(t, e)
		kept, frame := len(logText(list[:i]...)), len(logText(e))
		for whole := range len(acts) + 1 {
			for left := -1; left <= frame+1; left++ {
				what := fmt.Sprintf("record %d, behind %d acts, with %d bytes", i, whole, left)
				after, ok := impl.CutActs(d, acts, whole, []int{9, kept + left, 9})
				if !ok {
					t.Fatalf("%s: the power can't go", what)
				}
				there := i
				if whole == 2 || whole == 1 && left >= frame {
					there++
				}
				log, _ := impl.FileAt(after, "log")
				got, end := impl.ReadLog(log)
				if !slices.Equal(got, list[:there]) || end != len(logText(list[:there]...)) {
					t.Fatalf("%s: %d records up to %d, want %d", what, len(got), end, there)
				}
				if i < 5 || left == frame-1 {
					wantMended(t, what, after)
				}
			}
		}
		d = committed(t, d, e)
	}
}

// Mending may itself be cut, as often as may be: what is recovered stays the same.
func TestThePowerGoesInMending(t *testing.T) {
	log := logText(logLife()[:6]...)
	for _, d := range []impl.Disk{
		logAlone(log + "half a frame"),
		diskOf(file("log", log+logText(editBoot())[:9], len(log)+9), file("log+", log[:40], 40)),
		diskOf(file("log", log, len(log)), file("log+", log[:40]+"x", 41)),
		logAlone("none"),
	} {
		tree, groups, acts, _ := impl.Recover(d)
		text, _ := impl.FileAt(d, "log")
		list, _ := impl.ReadLog(text)
		for whole := range len(acts) + 1 {
			for left := range len(log) + 2 {
				after, ok := impl.CutActs(d, acts, whole, []int{len(text), left})
				if !ok {
					t.Fatalf("the power can't go behind %d acts", whole)
				}
				what := fmt.Sprintf("behind %d acts, with %d bytes", whole, left)
				again, g, more, ok := impl.Recover(after)
				if !ok || !sameTree(again, tree) || g != groups {
					t.Fatalf("%s: Recover = %+v, %d, %t, want %+v, %d", what, again, g, ok, tree, groups)
				}
				if whole == len(acts) && len(more) != 0 {
					t.Errorf("%s: %s is still to be done", what, inShort(more))
				}
				log, _ := impl.FileAt(after, "log")
				if got, _ := impl.ReadLog(log); !slices.Equal(got, list) {
					t.Fatalf("%s: %d records of %d", what, len(got), len(list))
				}
				wantMended(t, what, after)
			}
		}
	}
}

// recoverAgain recovers until nothing cuts it: the power goes in the acts that mend some times.
func (d *draw) recoverAgain(t *testing.T, disk impl.Disk) impl.Disk {
	t.Helper()
	first, groups, _, _ := impl.Recover(disk)
	for {
		tree, g, acts, ok := impl.Recover(disk)
		if !ok || !sameTree(tree, first) || g != groups {
			t.Fatalf("recovering again tells %+v, %d, %t, want %+v, %d", tree, g, ok, first, groups)
		}
		if d.below(2) == 0 {
			mended, done := impl.DoActs(disk, acts)
			if done != len(acts) {
				t.Fatalf("of the acts that mend just %d of %d are done", done, len(acts))
			}
			return mended
		}
		disk, ok = impl.CutActs(disk, acts, d.below(len(acts)+1), []int{d.below(400), d.below(400), d.below(400)})
		if !ok {
			t.Fatal("the power can't go in the acts that mend")
		}
	}
}

func TestLogsInDrawnLives(t *testing.T) {
	d := draw(133)
	torn, came := 0, 0
	for range 60 {
		disk, tree, groups := impl.Disk{}, impl.TreeNew(), 1
		var list []impl.Edit
		for range 25 {
			e := d.editNear(tree)
			if !impl.EditOk(e) {
				continue
			}
			acts := recordActs(t, e)
			whole := d.below(4)
			if whole >= 2 {
				disk = committed(t, disk, e)
				list = append(list, e)
			} else {
				log, _ := impl.FileAt(disk, "log")
				left := len(log) + d.below(len(acts[0].Text)+2)
				disk, _ = impl.CutActs(disk, acts, whole, []int{left})
				log, _ = impl.FileAt(disk, "log")
				got, end := impl.ReadLog(log)
				if len(got) == len(list)+1 && whole == 1 {
					list = append(list, e)
					came++
				}
				if end < len(log) {
					torn++
				}
				disk = d.recoverAgain(t, disk)
			}
			log, _ := impl.FileAt(disk, "log")
			wantLog(t, "a life", log, list, len(log))
			tree, groups = impl.ApplyAll(impl.TreeNew(), list, 1)
			wantRecovered(t, "a life", disk, recovery{tree: tree, groups: groups})
		}
		own, g := plainTree(list)
		wantRecovered(t, "a life", disk, recovery{tree: own, groups: g})
	}
	if torn < 50 || came < 5 {
		t.Errorf("%d records were torn, and %d came through a cut", torn, came)
	}
}

// logPiece draws a record in its frame or, less often, what is none.
func (d *draw) logPiece() string {
	right := logText(d.edit())
	switch d.below(16) {
	case 0:
		return right[:d.below(len(right))]
	case 1:
		return turned(right, d.below(len(right)), byte(1+d.below(255)))
	case 2:
		return frameByBits(d.text(1 + d.below(200)))
	case 3:
		return d.text(d.below(12))
	case 4:
		text := right[5:]
		return frameByBits(turned(text, d.below(len(text)), byte(1+d.below(255))))
	}
	return right
}

func TestDrawnLogs(t *testing.T) {
	d := draw(134)
	whole, part := 0, 0
	for range 3000 {
		text := ""
		for range d.below(7) {
			text += d.logPiece()
		}
		list, end := plainReadLog(text)
		wantLog(t, "a drawn log", text, list, end)
		if end == len(text) {
			whole++
		} else if end > 0 {
			part++
		}
		disk := diskOf(file("log", text, d.below(len(text)+1)))
		if d.below(3) == 0 {
			left := d.logPiece()
			disk.Files = append(disk.Files, file("log+", left, d.below(len(left)+1)))
		}
		wantRecovered(t, "a drawn log", disk, plainRecover(disk))
		wantMended(t, "a drawn log", disk)
	}
	if whole < 300 || part < 300 {
		t.Errorf("%d logs were whole, %d in part", whole, part)
	}
}

func TestLogsAreNewMemory(t *testing.T) {
	for _, e := range someEdits() {
		e.Path, e.To = ownText(e.Path), ownText(e.To)
		for _, a := range recordActs(t, e) {
			wantNewTexts(t, "LogActs", []string{a.Name}, []string{e.Path, e.To})
			if a.Text != "" {
				wantNewTexts(t, "LogActs", []string{a.Text}, []string{e.Path, e.To})
			}
		}
	}
	for _, rest := range []string{"", "x"} {
		text := ownText(logText(editMake("/hall"), editCreate("/hall/door", 3), editMove("/hall/door", "/gate"), editAdd("/gate", 40)) + rest)
		list, _ := impl.ReadLog(text)
		for _, e := range list {
			wantNewTexts(t, "ReadLog", []string{e.Path}, []string{text})
			if e.To != "" {
				wantNewTexts(t, "ReadLog", []string{e.To}, []string{text})
			}
		}
		d := diskOf(file(ownText("log"), text, 0), file(ownText("log+"), ownText("left"), 0))
		texts := []string{text, d.Files[0].Name, d.Files[1].Name, d.Files[1].Text}
		tree, _, acts, _ := impl.Recover(d)
		if len(tree.Nodes) != 3 || len(acts) != 1+3*len(rest) {
			t.Errorf("Recover tells %+v, %s", tree, inShort(acts))
		}
		for _, node := range tree.Nodes[1:] {
			wantNewTexts(t, "Recover", []string{node.Name}, texts)
		}
		for _, a := range acts {
			wantNewTexts(t, "Recover", []string{a.Name}, texts)
			if a.Text != "" {
				wantNewTexts(t, "Recover", []string{a.Text}, texts)
			}
		}
	}
}

func TestLogsWriteIntoNoArgument(t *testing.T) {
	log := logText(logLife()...)
	for _, text := range []string{log, log + "half", log[:70], "none", strings.Repeat(log, 200)} {
		room := []byte(text + "behind")
		seen := unsafe.String(&room[0], len(text))
		d := impl.Disk{Files: spare([]impl.File{file("log", seen, 0), file("log+", seen, 0)}, file("mark", "mark", 1))}
		before := slices.Clone(d.Files[:5])
		impl.ReadLog(seen)
		tree, _, acts, _ := impl.Recover(d)
		scribbleTree(tree)
		acts = acts[:cap(acts)]
		for i := range acts {
			acts[i] = act(-1, "scribble")
		}
		if string(room) != text+"behind" {
			t.Errorf("a log of %d bytes, or what is behind it, is written into", len(text))
		}
		if !slices.Equal(d.Files[:5], before) {
			t.Errorf("a disk, or what is behind it, is written into: %s", tell(d))
		}
	}
	for _, e := range []impl.Edit{editMove("/hall", "/door"), editMake("/hall"), editMake("/hall/"), {}} {
		path, to := []byte(e.Path+"behind"), []byte(e.To+"behind")
		seen := e
		seen.Path, seen.To = unsafe.String(&path[0], len(e.Path)), unsafe.String(&to[0], len(e.To))
		impl.LogActs(seen)
		if string(path) != e.Path+"behind" || string(to) != e.To+"behind" {
			t.Errorf("a path, or what is behind it, is written into: %q, %q", path, to)
		}
	}
}

// Nothing is kept from call to call: an answer that is written over is told anew.
func TestLogsAreToldAlikeEachTime(t *testing.T) {
	list := logLife()
	log := logText(list...)
	d := diskOf(file("log", log+"x", 5), file("log+", "left", 1))
	for range 20 {
		want := append([]impl.Act{act(impl.ActDrop, "log+")}, rewrite(log)...)
		wantRecovered(t, "each time", d, recovery{tree: treeOfLogLife(), groups: 47, acts: want})
		wantLog(t, "each time", log+"x", list, len(log))
		tree, _, acts, _ := impl.Recover(d)
		scribbleTree(tree)
		got, _ := impl.ReadLog(log)
		own := recordActs(t, editMake("/d"))
		if !slices.Equal(own, []impl.Act{add("log", logText(editMake("/d"))), act(impl.ActKeep, "log")}) {
			t.Errorf("LogActs = %s", inShort(own))
		}
		for _, a := range [][]impl.Act{acts, own} {
			for i := range a {
				a[i] = act(-1, "scribble")
			}
		}
		for i := range got {
			got[i] = impl.Edit{}
		}
	}
}
