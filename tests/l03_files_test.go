package tests

import (
	"fmt"
	"math"
	"slices"
	"strings"
	"testing"

	"loop.example/g00197/impl"
)

func diskOf(files ...impl.File) impl.Disk {
	return impl.Disk{Files: files}
}

func file(name, text string, kept int) impl.File {
	return impl.File{Name: name, Text: text, Kept: kept}
}

func sameDisk(a, b impl.Disk) bool {
	return slices.Equal(a.Files, b.Files)
}

// tell is a disk in few bytes, however long its texts are.
func tell(d impl.Disk) string {
	out := fmt.Sprintf("%d files:", len(d.Files))
	for _, f := range d.Files {
		out += fmt.Sprintf(" %q %.12q (%d bytes, %d kept)", f.Name, f.Text, len(f.Text), f.Kept)
	}
	return out
}

// manyFiles is a disk of n files with ascending names.
func manyFiles(n int) impl.Disk {
	var d impl.Disk
	for i := range n {
		d.Files = append(d.Files, file(fmt.Sprintf("f%03d", i), "text", i%5))
	}
	return d
}

// threeFiles has a file ahead of and one behind that on which acts are done.
func threeFiles() impl.Disk {
	return diskOf(file("a", "ahead", 2), file("m", "middle", 6), file("z", "behind", 0))
}

func act(kind int, name string) impl.Act {
	return impl.Act{Kind: kind, Name: name}
}

func add(name, text string) impl.Act {
	return impl.Act{Kind: impl.ActAdd, Name: name, Text: text}
}

func move(name, to string) impl.Act {
	return impl.Act{Kind: impl.ActMove, Name: name, To: to}
}

func wantAct(t *testing.T, d impl.Disk, a impl.Act, want impl.Disk) {
	t.Helper()
	if got, ok := impl.DoAct(d, a); !ok || !sameDisk(got, want) {
		t.Errorf("DoAct of kind %d, %q: %s, %v; want %s", a.Kind, a.Name, tell(got), ok, tell(want))
	}
}

func wantNoAct(t *testing.T, what string, d impl.Disk, a impl.Act) {
	t.Helper()
	if got, ok := impl.DoAct(d, a); ok || len(got.Files) != 0 {
		t.Errorf("%s: DoAct of kind %d, %q: %s, %v", what, a.Kind, a.Name, tell(got), ok)
	}
}

// wrongDisks are disks that are not right, each by one thing alone.
func wrongDisks() map[string]impl.Disk {
	return map[string]impl.Disk{
		"one file too many":            manyFiles(impl.MaxFiles + 1),
		"no name":                      diskOf(file("", "x", 0)),
		"no name ahead of others":      diskOf(file("", "x", 0), file("a", "x", 0)),
		"a name too long":              diskOf(file("a", "x", 0), file("b23456789", "x", 0)),
		"names that descend":           diskOf(file("b", "x", 0), file("a", "x", 0)),
		"names that descend at last":   diskOf(file("a", "x", 0), file("c", "x", 0), file("b", "x", 0)),
		"names that are alike":         diskOf(file("a", "x", 0), file("a", "y", 0)),
		"a beginning behind its whole": diskOf(file("ab", "x", 0), file("a", "x", 0)),
		"a high byte ahead of a low":   diskOf(file("\xff", "x", 0), file("z", "x", 0)),
		"a text too long":              diskOf(file("a", strings.Repeat("x", impl.MaxText+1), 0)),
		"a text too long, all kept":    diskOf(file("a", "", 0), file("b", strings.Repeat("x", impl.MaxText+1), impl.MaxText+1)),
		"kept below 0":                 diskOf(file("a", "x", -1)),
		"kept far below 0":             diskOf(file("a", "x", math.MinInt)),
		"kept past the end":            diskOf(file("a", "x", 2)),
		"kept past the end of nothing": diskOf(file("a", "", 1)),
		"kept far past the end":        diskOf(file("a", "x", 1), file("b", "x", math.MaxInt)),
	}
}

func TestConstantsOfFiles(t *testing.T) {
	if impl.MaxFiles != 30 || impl.MaxName != 8 {
		t.Error("a limit is not the document's")
	}
	if impl.ActAdd != 1 || impl.ActKeep != 2 || impl.ActMove != 3 || impl.ActDrop != 4 {
		t.Error("a kind of act is not the document's")
	}
}

func TestDiskOk(t *testing.T) {
	long := strings.Repeat("x", impl.MaxText)
	for what, d := range map[string]impl.Disk{
		"nothing":                 {},
		"an empty list":           {Files: []impl.File{}},
		"one file":                diskOf(file("a", "123", 1)),
		"no text":                 diskOf(file("a", "", 0)),
		"nothing kept":            diskOf(file("a", "123", 0)),
		"all kept":                diskOf(file("a", "123", 3)),
		"names of 1 and 8":        diskOf(file("a", "1", 0), file("b2345678", "1", 0)),
		"names of any bytes":      diskOf(file("\x00", "1", 0), file(" /", "1", 0), file("\xff\xfe", "1", 0)),
		"a beginning ahead":       diskOf(file("a", "1", 0), file("a\x00", "1", 0), file("aa", "1", 0), file("b", "1", 0)),
		"longest texts":           diskOf(file("a", long, 0), file("b", long, impl.MaxText)),
		"as many files as may be": manyFiles(impl.MaxFiles),
	} {
		if !impl.DiskOk(d) {
			t.Errorf("%s: not right", what)
		}
	}
	for what, d := range wrongDisks() {
		if impl.DiskOk(d) {
			t.Errorf("%s: right", what)
		}
	}
}

func TestFileAt(t *testing.T) {
	d := diskOf(file("a", "one", 1), file("ab", "", 0), file("b", "\x00\xff", 0))
	for _, f := range d.Files {
		if s, ok := impl.FileAt(d, f.Name); s != f.Text || !ok {
			t.Errorf("FileAt %q: %q, %v", f.Name, s, ok)
		}
	}
	for _, name := range []string{"", "A", "abc", "c", "a\x00", "one", strings.Repeat("a", 100)} {
		if s, ok := impl.FileAt(d, name); s != "" || ok {
			t.Errorf("FileAt %q, which is not there: %q, %v", name, s, ok)
		}
	}
	if s, ok := impl.FileAt(impl.Disk{}, "a"); s != "" || ok {
		t.Errorf("FileAt of no files: %q, %v", s, ok)
	}
}

// The document does not ask that the disk be right here.
func TestFileAtOfAWrongDisk(t *testing.T) {
	d := diskOf(file("b", "one", -1), file("a", "two", 9), file("", "three", 0), file("b", "four", 0))
	for name, want := range map[string]string{"a": "two", "": "three", "b": "one"} {
		if s, ok := impl.FileAt(d, name); s != want || !ok {
			t.Errorf("FileAt %q: %q, %v", name, s, ok)
		}
	}
	if s, ok := impl.FileAt(d, "c"); s != "" || ok {
		t.Errorf("FileAt of a name that is not there: %q, %v", s, ok)
	}
}

func TestActAdd(t *testing.T) {
	d := threeFiles()
	a, m, z := d.Files[0], d.Files[1], d.Files[2]
	wantAct(t, d, add("m", " more"), diskOf(a, file("m", "middle more", 6), z))
	wantAct(t, d, add("a", "\x00"), diskOf(file("a", "ahead\x00", 2), m, z))
	wantAct(t, d, add("z", "z"), diskOf(a, m, file("z", "behindz", 0)))
	wantAct(t, d, add("m", ""), d)
	wantAct(t, d, add("A", "new"), diskOf(file("A", "new", 0), a, m, z))
	wantAct(t, d, add("b", "new"), diskOf(a, file("b", "new", 0), m, z))
	wantAct(t, d, add("zz", ""), diskOf(a, m, z, file("zz", "", 0)))
	wantAct(t, impl.Disk{}, add("a", "first"), diskOf(file("a", "first", 0)))
}

func TestActKeep(t *testing.T) {
	d := threeFiles()
	a, m, z := d.Files[0], d.Files[1], d.Files[2]
	wantAct(t, d, act(impl.ActKeep, "a"), diskOf(file("a", "ahead", 5), m, z))
	wantAct(t, d, act(impl.ActKeep, "m"), d)
	wantAct(t, d, act(impl.ActKeep, "z"), diskOf(a, m, file("z", "behind", 6)))
	wantAct(t, diskOf(file("e", "", 0)), act(impl.ActKeep, "e"), diskOf(file("e", "", 0)))
}

func TestActMove(t *testing.T) {
	d := threeFiles()
	a, z := d.Files[0], d.Files[2]
	wantAct(t, d, move("m", "b"), diskOf(a, file("b", "middle", 6), z))
	wantAct(t, d, move("m", "A"), diskOf(file("A", "middle", 6), a, z))
	wantAct(t, d, move("m", "zz"), diskOf(a, z, file("zz", "middle", 6)))
	wantAct(t, d, move("m", "a"), diskOf(file("a", "middle", 6), z))
	wantAct(t, d, move("m", "z"), diskOf(a, file("z", "middle", 6)))
	wantAct(t, diskOf(file("e", "", 0)), move("e", "f"), diskOf(file("f", "", 0)))
}

func TestActDrop(t *testing.T) {
	d := threeFiles()
	a, m, z := d.Files[0], d.Files[1], d.Files[2]
	wantAct(t, d, act(impl.ActDrop, "a"), diskOf(m, z))
	wantAct(t, d, act(impl.ActDrop, "m"), diskOf(a, z))
	wantAct(t, d, act(impl.ActDrop, "z"), diskOf(a, m))
	wantAct(t, diskOf(m), act(impl.ActDrop, "m"), impl.Disk{})
}

func TestActsAtTheLimits(t *testing.T) {
	full := manyFiles(impl.MaxFiles)
	grown := manyFiles(impl.MaxFiles)
	grown.Files[7].Text += "more"
	wantAct(t, full, add("f007", "more"), grown)
	wantNoAct(t, "one file more", full, add("g", ""))
	moved := append(slices.Concat(full.Files[:4], full.Files[5:]), file("g", "text", 4))
	wantAct(t, full, move("f004", "g"), diskOf(moved...))
	wantAct(t, manyFiles(impl.MaxFiles-1), add("f029", ""), diskOf(append(manyFiles(impl.MaxFiles-1).Files, file("f029", "", 0))...))

	for _, name := range []string{"n", "n2345678"} {
		wantAct(t, impl.Disk{}, add(name, "x"), diskOf(file(name, "x", 0)))
		wantAct(t, diskOf(file("a", "x", 1)), move("a", name), diskOf(file(name, "x", 1)))
	}
	for _, name := range []string{"", "n23456789"} {
		wantNoAct(t, "a name that may not be", impl.Disk{}, add(name, "x"))
		wantNoAct(t, "a name that may not be", diskOf(file("a", "x", 1)), move("a", name))
	}

	most := strings.Repeat("x", impl.MaxText)
	wantAct(t, impl.Disk{}, add("a", most), diskOf(file("a", most, 0)))
	wantAct(t, diskOf(file("a", most[1:], 5)), add("a", "x"), diskOf(file("a", most, 5)))
	wantAct(t, diskOf(file("a", most, 5)), add("a", ""), diskOf(file("a", most, 5)))
	wantNoAct(t, "a text too long", impl.Disk{}, add("a", most+"x"))
	wantNoAct(t, "a text too long", diskOf(file("a", most, 5)), add("a", "x"))
	wantNoAct(t, "a text too long", diskOf(file("a", "x", 0)), add("a", most))
}

func TestActsThatAreNone(t *testing.T) {
	d := threeFiles()
	for _, kind := range []int{0, -1, 5, 6, math.MinInt, math.MaxInt} {
		wantNoAct(t, "no kind", d, act(kind, "m"))
		wantNoAct(t, "no kind", d, impl.Act{Kind: kind, Name: "m", Text: "x"})
		wantNoAct(t, "no kind", d, impl.Act{Kind: kind, Name: "m", To: "b"})
	}
	wantNoAct(t, "nothing at all", d, impl.Act{})
	for _, kind := range []int{impl.ActAdd, impl.ActKeep, impl.ActDrop} {
		for _, to := range []string{"b", "m", "z"} {
			wantNoAct(t, "a To", d, impl.Act{Kind: kind, Name: "m", To: to})
		}
	}
	for _, kind := range []int{impl.ActKeep, impl.ActDrop} {
		wantNoAct(t, "a Text", d, impl.Act{Kind: kind, Name: "m", Text: "x"})
	}
	wantNoAct(t, "a Text", d, impl.Act{Kind: impl.ActMove, Name: "m", To: "b", Text: "x"})
	wantNoAct(t, "a To beside a Text", d, impl.Act{Kind: impl.ActAdd, Name: "m", To: "b", Text: "x"})
	for _, name := range []string{"", "b", "mm", "M"} {
		wantNoAct(t, "no such file", d, act(impl.ActKeep, name))
		wantNoAct(t, "no such file", d, act(impl.ActDrop, name))
		wantNoAct(t, "no such file", d, move(name, "c"))
		wantNoAct(t, "no such file", d, move(name, "z"))
		wantNoAct(t, "no such file", impl.Disk{}, act(impl.ActDrop, name))
	}
	wantNoAct(t, "To is Name", d, move("m", "m"))
	wantNoAct(t, "no To", d, move("m", ""))
	wantNoAct(t, "not all kept", d, move("a", "b"))
	wantNoAct(t, "nothing kept", d, move("z", "b"))
	wantNoAct(t, "one byte not kept", diskOf(file("a", "12345", 4)), move("a", "b"))
	wantNoAct(t, "not all kept, to one that there is", d, move("a", "m"))
}

func TestActsOnWrongDisks(t *testing.T) {
	for what, d := range wrongDisks() {
		name := d.Files[len(d.Files)-1].Name
		for _, a := range []impl.Act{
			add(name, "x"), add("new", ""), act(impl.ActKeep, name), act(impl.ActDrop, name), move(name, "to"),
			// These would make some of the disks right.
			act(impl.ActDrop, d.Files[0].Name), act(impl.ActKeep, d.Files[0].Name), move(name, d.Files[0].Name),
		} {
			wantNoAct(t, what, d, a)
		}
	}
}

func TestDoActs(t *testing.T) {
	list := []impl.Act{
		add("log", "one"), act(impl.ActKeep, "log"), add("log", "two"), add("log+", "onetwo"),
		act(impl.ActKeep, "log+"), move("log+", "log"), act(impl.ActDrop, "log"),
	}
	behind := []impl.Disk{
		{},
		diskOf(file("log", "one", 0)),
		diskOf(file("log", "one", 3)),
		diskOf(file("log", "onetwo", 3)),
		diskOf(file("log", "onetwo", 3), file("log+", "onetwo", 0)),
		diskOf(file("log", "onetwo", 3), file("log+", "onetwo", 6)),
		diskOf(file("log", "onetwo", 6)),
		{},
	}
	for n, want := range behind {
		if got, done := impl.DoActs(impl.Disk{}, list[:n]); done != n || !sameDisk(got, want) {
			t.Errorf("the first %d: %s, %d; want %s", n, tell(got), done, tell(want))
		}
	}
	for n := range list {
		cut := slices.Concat(list[:n], []impl.Act{move("none", "log")}, list[n:])
		if got, done := impl.DoActs(impl.Disk{}, cut); done != n || !sameDisk(got, behind[n]) {
			t.Errorf("the first %d, and one that is false: %s, %d; want %s", n, tell(got), done, tell(behind[n]))
		}
	}
}

// Each of these acts is refused at a different thing; a part of it must not be left.
func TestDoActsLeaveNothingOfWhatIsRefused(t *testing.T) {
	most := strings.Repeat("x", impl.MaxText)
	d := manyFiles(impl.MaxFiles)
	for what, a := range map[string]impl.Act{
		"one file more":   add("g", "x"),
		"a text too long": add("f000", most),
		"not all kept":    move("f000", "f004"),
		"To is Name":      move("f004", "f004"),
		"To is no name":   move("f004", "n23456789"),
		"a Text":          {Kind: impl.ActDrop, Name: "f000", Text: "x"},
		"a To":            {Kind: impl.ActKeep, Name: "f000", To: "g"},
	} {
		got, done := impl.DoActs(d, []impl.Act{a, act(impl.ActDrop, "f000")})
		if done != 0 || !sameDisk(got, d) {
			t.Errorf("%s: %s, %d", what, tell(got), done)
		}
		want := diskOf(d.Files[:29]...)
		got, done = impl.DoActs(d, []impl.Act{act(impl.ActDrop, "f029"), add("f029", ""), act(impl.ActDrop, "f029"), add("h", "x"), act(impl.ActDrop, "h"), act(9, "f000"), a})
		if done != 5 || !sameDisk(got, want) {
			t.Errorf("%s, behind others: %s, %d", what, tell(got), done)
		}
	}
}

func TestDoActsOfNone(t *testing.T) {
	for what, d := range wrongDisks() {
		for _, list := range [][]impl.Act{nil, {}, {add("a", "x")}, {act(impl.ActDrop, d.Files[0].Name)}} {
			if got, done := impl.DoActs(d, list); done != 0 || !sameDisk(got, d) {
				t.Errorf("%s, %d acts: %s, %d", what, len(list), tell(got), done)
			}
		}
	}
	if got, done := impl.DoActs(threeFiles(), nil); done != 0 || !sameDisk(got, threeFiles()) {
		t.Errorf("no acts: %s, %d", tell(got), done)
	}
}

func TestLoseDisk(t *testing.T) {
	d := diskOf(file("a", "12345", 2), file("b", "12345", 0), file("c", "12345", 5))
	for _, c := range []struct {
		left  []int
		texts [3]string
	}{
		{nil, [3]string{"12", "", "12345"}},
		{[]int{}, [3]string{"12", "", "12345"}},
		{[]int{0, 0, 0}, [3]string{"12", "", "12345"}},
		{[]int{1, 1, 1}, [3]string{"12", "1", "12345"}},
		{[]int{2, 2, 2}, [3]string{"12", "12", "12345"}},
		{[]int{3, 4, 4}, [3]string{"123", "1234", "12345"}},
		{[]int{5, 5, 5}, [3]string{"12345", "12345", "12345"}},
		{[]int{6, 6, 6}, [3]string{"12345", "12345", "12345"}},
		{[]int{math.MaxInt, math.MaxInt, math.MaxInt}, [3]string{"12345", "12345", "12345"}},
		{[]int{-1, -1, -1}, [3]string{"12", "", "12345"}},
		{[]int{math.MinInt, math.MinInt, math.MinInt}, [3]string{"12", "", "12345"}},
		{[]int{4}, [3]string{"1234", "", "12345"}},
		{[]int{-3, 3}, [3]string{"12", "123", "12345"}},
		{[]int{3, 2, 1, 4, -1, 0}, [3]string{"123", "12", "12345"}},
	} {
		var want impl.Disk
		for i, text := range c.texts {
			want.Files = append(want.Files, file(d.Files[i].Name, text, len(text)))
		}
		if got, ok := impl.LoseDisk(d, c.left); !ok || !sameDisk(got, want) {
			t.Errorf("LoseDisk with %v: %s, %v", c.left, tell(got), ok)
		}
	}
	if got, ok := impl.LoseDisk(impl.Disk{}, []int{1, 2}); !ok || len(got.Files) != 0 {
		t.Errorf("LoseDisk of no files: %s, %v", tell(got), ok)
	}
}

func TestLoseDiskAtTheLimits(t *testing.T) {
	most := strings.Repeat("x", impl.MaxText)
	d := manyFiles(impl.MaxFiles)
	d.Files[29] = file("n2345678", most, impl.MaxText-1)
	left := make([]int, impl.MaxFiles)
	left[29] = impl.MaxText
	want := manyFiles(impl.MaxFiles)
	for i, f := range want.Files {
		want.Files[i] = file(f.Name, f.Text[:f.Kept], f.Kept)
	}
	want.Files[29] = file("n2345678", most, impl.MaxText)
	if got, ok := impl.LoseDisk(d, left); !ok || !sameDisk(got, want) {
		t.Errorf("LoseDisk: %s, %v", tell(got), ok)
	}
	for what, d := range wrongDisks() {
		if got, ok := impl.LoseDisk(d, []int{1, 1}); ok || len(got.Files) != 0 {
			t.Errorf("%s: LoseDisk: %s, %v", what, tell(got), ok)
		}
	}
}

func TestCutActs(t *testing.T) {
	d := diskOf(file("a", "kept", 4))
	list := []impl.Act{add("a", "more"), add("b", "new"), act(impl.ActKeep, "a"), move("a", "b"), act(impl.ActDrop, "a")}
	for _, c := range []struct {
		whole int
		left  []int
		want  impl.Disk
	}{
		{0, nil, diskOf(file("a", "kept", 4))},
		{0, []int{0}, diskOf(file("a", "kept", 4))},
		{1, nil, diskOf(file("a", "kept", 4))},
		{1, []int{6}, diskOf(file("a", "keptmo", 6))},
		{1, []int{99}, diskOf(file("a", "keptmore", 8))},
		{2, []int{5, 1}, diskOf(file("a", "keptm", 5), file("b", "n", 1))},
		{2, nil, diskOf(file("a", "kept", 4), file("b", "", 0))},
		{3, nil, diskOf(file("a", "keptmore", 8), file("b", "", 0))},
		{4, nil, diskOf(file("b", "keptmore", 8))},
	} {
		if got, ok := impl.CutActs(d, list, c.whole, c.left); !ok || !sameDisk(got, c.want) {
			t.Errorf("CutActs behind %d, with %v: %s, %v", c.whole, c.left, tell(got), ok)
		}
	}
	if got, ok := impl.CutActs(d, list[:4], 4, nil); !ok || !sameDisk(got, diskOf(file("b", "keptmore", 8))) {
		t.Errorf("CutActs behind all: %s, %v", tell(got), ok)
	}
	if got, ok := impl.CutActs(d, nil, 0, nil); !ok || !sameDisk(got, d) {
		t.Errorf("CutActs of no acts: %s, %v", tell(got), ok)
	}
	// The last act is false: the one ahead of it has moved a away.
	for _, whole := range []int{5, 6, 100, math.MaxInt, -1, -5, math.MinInt} {
		if got, ok := impl.CutActs(d, list, whole, nil); ok || len(got.Files) != 0 {
			t.Errorf("CutActs behind %d: %s, %v", whole, tell(got), ok)
		}
	}
	for what, d := range wrongDisks() {
		for whole := range 2 {
			if got, ok := impl.CutActs(d, list, whole, nil); ok || len(got.Files) != 0 {
				t.Errorf("%s: CutActs behind %d: %s, %v", what, whole, tell(got), ok)
			}
		}
	}
	for whole := 1; whole <= 3; whole++ {
		wrong := slices.Concat([]impl.Act{act(impl.ActDrop, "none")}, list)
		if got, ok := impl.CutActs(d, wrong, whole, nil); ok || len(got.Files) != 0 {
			t.Errorf("CutActs behind %d, the first of which is false: %s, %v", whole, tell(got), ok)
		}
	}
}

func TestAllKept(t *testing.T) {
	most := strings.Repeat("x", impl.MaxText)
	for what, d := range map[string]impl.Disk{
		"nothing":         {},
		"no text":         diskOf(file("a", "", 0)),
		"one file":        diskOf(file("a", "12", 2)),
		"several":         diskOf(file("a", "12", 2), file("b", "", 0), file("c", "1", 1)),
		"the longest one": diskOf(file("a", most, impl.MaxText)),
	} {
		if !impl.AllKept(d) {
			t.Errorf("%s: not all kept", what)
		}
	}
	for what, d := range map[string]impl.Disk{
		"nothing kept":        diskOf(file("a", "12", 0)),
		"all but one byte":    diskOf(file("a", "12", 1)),
		"the first not":       diskOf(file("a", "12", 1), file("b", "1", 1)),
		"the last not":        diskOf(file("a", "12", 2), file("b", "1", 0)),
		"no name":             diskOf(file("", "12", 2)),
		"names alike":         diskOf(file("a", "12", 2), file("a", "12", 2)),
		"names that descend":  diskOf(file("b", "12", 2), file("a", "12", 2)),
		"a name too long":     diskOf(file("a23456789", "12", 2)),
		"a text too long":     diskOf(file("a", most+"x", impl.MaxText+1)),
		"more kept than text": diskOf(file("a", "12", 3)),
	} {
		if impl.AllKept(d) {
			t.Errorf("%s: all kept", what)
		}
	}
	for what, d := range wrongDisks() {
		if impl.AllKept(d) {
			t.Errorf("%s: all kept", what)
		}
	}
	many := manyFiles(impl.MaxFiles + 1)
	for i := range many.Files {
		many.Files[i].Kept = 4
	}
	if impl.AllKept(many) {
		t.Error("one file too many: all kept")
	}
	if many.Files = many.Files[1:]; !impl.AllKept(many) {
		t.Error("just as many files as may be: not all kept")
	}
}

// plainAct is DoAct in the document's words, on a list that is looked through.
func plainAct(d impl.Disk, a impl.Act) (impl.Disk, bool) {
	if !impl.DiskOk(d) || a.Kind != impl.ActMove && a.To != "" || a.Kind != impl.ActAdd && a.Text != "" {
		return impl.Disk{}, false
	}
	files := slices.Clone(d.Files)
	at := slices.IndexFunc(files, func(f impl.File) bool { return f.Name == a.Name })
	switch {
	case a.Kind == impl.ActAdd && at < 0:
		files = append(files, file(a.Name, a.Text, 0))
	case at < 0:
		return impl.Disk{}, false
	case a.Kind == impl.ActAdd:
		files[at].Text += a.Text
	case a.Kind == impl.ActKeep:
		files[at].Kept = len(files[at].Text)
	case a.Kind == impl.ActDrop:
		files = slices.Delete(files, at, at+1)
	case a.Kind == impl.ActMove && a.To != a.Name && files[at].Kept == len(files[at].Text):
		files = slices.DeleteFunc(files, func(f impl.File) bool { return f.Name == a.Name || f.Name == a.To })
		files = append(files, file(a.To, d.Files[at].Text, d.Files[at].Kept))
	default:
		return impl.Disk{}, false
	}
	slices.SortFunc(files, func(f, g impl.File) int { return strings.Compare(f.Name, g.Name) })
	if !impl.DiskOk(impl.Disk{Files: files}) {
		return impl.Disk{}, false
	}
	return impl.Disk{Files: files}, true
}

func (d *draw) name() string {
	return []string{"a", "b", "ab", "log", "log+", "n2345678", "", "n23456789"}[min(d.below(9), 7)]
}

// act draws an act, most of which are right by themselves.
func (d *draw) act() impl.Act {
	a := impl.Act{Kind: 1 + d.below(4), Name: d.name()}
	if a.Kind == impl.ActAdd {
		a.Text = d.text(d.below(9))
	}
	if a.Kind == impl.ActMove {
		a.To = d.name()
	}
	switch d.below(30) {
	case 0:
		a.Kind = d.below(7) - 1
	case 1:
		a.To = d.name()
	case 2:
		a.Text = d.text(d.below(3))
	}
	return a
}

func (d *draw) left() []int {
	out := make([]int, d.below(8))
	for i := range out {
		out[i] = d.below(14) - 2
	}
	return out
}

func TestActsInDrawnLives(t *testing.T) {
	d := draw(31)
	done := 0
	for range 400 {
		var disk impl.Disk
		var acts []impl.Act
		for range 40 {
			a := d.act()
			want, right := plainAct(disk, a)
			got, ok := impl.DoAct(disk, a)
			if ok != right || !sameDisk(got, want) {
				t.Fatalf("%s; DoAct of %+v: %s, %v; want %s, %v", tell(disk), a, tell(got), ok, tell(want), right)
			}
			if !ok {
				all, n := impl.DoActs(impl.Disk{}, append(slices.Clone(acts), a, add("a", "x")))
				if n != len(acts) || !sameDisk(all, disk) {
					t.Fatalf("up to %+v, DoActs: %s, %d; want %s, %d", a, tell(all), n, tell(disk), len(acts))
				}
				continue
			}
			disk, acts = got, append(acts, a)
			done++
			if all, n := impl.DoActs(impl.Disk{}, acts); n != len(acts) || !sameDisk(all, disk) {
				t.Fatalf("DoActs: %s, %d; want %s, %d", tell(all), n, tell(disk), len(acts))
			}
		}
	}
	if done < 4000 {
		t.Errorf("just %d acts were done", done)
	}
}

// wantLost holds a disk that lost power against what it was: what is kept is there, of the rest a beginning.
func wantLost(t *testing.T, before, after impl.Disk, left []int) {
	t.Helper()
	if len(after.Files) != len(before.Files) || !impl.AllKept(after) {
		t.Fatalf("%s is left of %s", tell(after), tell(before))
	}
	for i, f := range before.Files {
		g := after.Files[i]
		told := 0
		if i < len(left) {
			told = left[i]
		}
		if g.Name != f.Name || !strings.HasPrefix(f.Text, g.Text) || !strings.HasPrefix(g.Text, f.Text[:f.Kept]) {
			t.Fatalf("with %v, %s is left of %s", left, tell(after), tell(before))
		}
		if n := len(g.Text); n != f.Kept && n != len(f.Text) && n != told || n < len(f.Text) && n < told {
			t.Fatalf("with %v, %s is left of %s", left, tell(after), tell(before))
		}
	}
}

func TestPowerGoesInDrawnLives(t *testing.T) {
	d := draw(32)
	done := 0
	for range 300 {
		var disk impl.Disk
		var acts []impl.Act
		for range 40 {
			a := d.act()
			if next, ok := impl.DoAct(disk, a); ok {
				disk, acts = next, append(acts, a)
			}
		}
		done += len(acts)
		for whole := range len(acts) + 1 {
			before, _ := impl.DoActs(impl.Disk{}, acts[:whole])
			left := d.left()
			after, ok := impl.CutActs(impl.Disk{}, acts, whole, left)
			if !ok {
				t.Fatalf("CutActs behind %d of %d is false", whole, len(acts))
			}
			wantLost(t, before, after, left)
			lost, ok := impl.LoseDisk(before, left)
			if !ok || !sameDisk(lost, after) {
				t.Fatalf("LoseDisk: %s, %v; CutActs: %s", tell(lost), ok, tell(after))
			}
			again, ok := impl.LoseDisk(after, d.left())
			if !ok || !sameDisk(again, after) {
				t.Fatalf("the power goes again: %s, %v; want %s", tell(again), ok, tell(after))
			}
		}
	}
	if done < 3000 {
		t.Errorf("just %d acts were done", done)
	}
}

// What is kept is not shortened by acts, either: only a drop or a move takes it away.
func TestKeptStaysThroughActs(t *testing.T) {
	d := draw(33)
	for range 300 {
		var disk impl.Disk
		for range 40 {
			a := d.act()
			next, ok := impl.DoAct(disk, a)
			if !ok {
				continue
			}
			for _, f := range disk.Files {
				if a.Kind == impl.ActDrop && a.Name == f.Name || a.Kind == impl.ActMove && (a.Name == f.Name || a.To == f.Name) {
					continue
				}
				i := slices.IndexFunc(next.Files, func(g impl.File) bool { return g.Name == f.Name })
				if i < 0 || next.Files[i].Kept < f.Kept || !strings.HasPrefix(next.Files[i].Text, f.Text) {
					t.Fatalf("behind %+v, %s is left of %s", a, tell(next), tell(disk))
				}
			}
			disk = next
		}
	}
}

// spare is a list with room behind it, in which something stands that must stay.
func spare[T any](list []T, behind T) []T {
	room := append(slices.Clone(list), behind, behind, behind)
	return room[:len(list)]
}

func wantFresh(t *testing.T, what string, got impl.Disk, texts []string) {
	t.Helper()
	for _, f := range got.Files {
		for _, text := range texts {
			if f.Name != "" && within(f.Name, text) || f.Text != "" && within(f.Text, text) {
				t.Errorf("%s: file %q has memory of an argument", what, f.Name)
			}
		}
	}
}

func ownText(s string) string {
	return string([]byte(s))
}

func TestFilesAreNewMemory(t *testing.T) {
	var texts []string
	own := func(s string) string {
		texts = append(texts, ownText(s))
		return texts[len(texts)-1]
	}
	d := diskOf(file(own("aa"), own("ahead"), 2), file(own("mm"), own("middle"), 6), file(own("nn"), "", 0), file(own("zz"), own("behind"), 0))
	lists := map[string][]impl.Act{
		"none":         nil,
		"add":          {{Kind: impl.ActAdd, Name: own("mm"), Text: own("more")}},
		"add nothing":  {{Kind: impl.ActAdd, Name: own("mm")}},
		"add to empty": {{Kind: impl.ActAdd, Name: own("nn"), Text: own("more")}},
		"add a new":    {{Kind: impl.ActAdd, Name: own("bb"), Text: own("more")}},
		"keep":         {{Kind: impl.ActKeep, Name: own("aa")}},
		"move":         {{Kind: impl.ActMove, Name: own("mm"), To: own("bb")}},
		"move onto":    {{Kind: impl.ActMove, Name: own("mm"), To: own("zz")}},
		"drop":         {{Kind: impl.ActDrop, Name: own("aa")}},
	}
	for what, list := range lists {
		if got, n := impl.DoActs(d, list); n == len(list) {
			wantFresh(t, what+", DoActs", got, texts)
		} else {
			t.Errorf("%s: %d done", what, n)
		}
		if got, ok := impl.CutActs(d, list, len(list), []int{9, 9, 9, 3}); ok {
			wantFresh(t, what+", CutActs", got, texts)
		} else {
			t.Errorf("%s: CutActs is false", what)
		}
		if len(list) > 0 {
			got, _ := impl.DoAct(d, list[0])
			wantFresh(t, what+", DoAct", got, texts)
		}
	}
	got, _ := impl.LoseDisk(d, []int{9, 9, 9, 9})
	wantFresh(t, "LoseDisk", got, texts)
	got, _ = impl.DoActs(diskOf(file(texts[1], texts[0], 9)), nil)
	wantFresh(t, "DoActs of a wrong disk", got, texts)
	if s, _ := impl.FileAt(d, "mm"); within(s, d.Files[1].Text) {
		t.Error("FileAt answers the text of its argument")
	}
}

func TestFilesWriteIntoNoArgument(t *testing.T) {
	mark := file("mark", "mark", 1)
	d := impl.Disk{Files: spare(threeFiles().Files, mark)}
	list := spare([]impl.Act{add("b", "new"), act(impl.ActKeep, "b"), move("b", "a"), act(impl.ActDrop, "z"), add("zz", "")}, add("mark", "mark"))
	left := spare([]int{-1, 3, 99}, 7)
	files, acts, lefts := slices.Clone(d.Files[:6]), slices.Clone(list[:8]), slices.Clone(left[:6])
	check := func(what string, got impl.Disk) {
		t.Helper()
		for i := range got.Files {
			got.Files[i] = file("over", "over", 0)
		}
		_ = append(got.Files, mark)
		if !slices.Equal(d.Files[:6], files) || !slices.Equal(list[:8], acts) || !slices.Equal(left[:6], lefts) {
			t.Fatalf("%s writes into an argument, or shares memory with it", what)
		}
	}
	for _, a := range []impl.Act{add("m", "x"), add("b", ""), act(impl.ActKeep, "a"), move("m", "a"), move("m", "zz"), act(impl.ActDrop, "a"), act(0, "a")} {
		got, _ := impl.DoAct(d, a)
		check("DoAct", got)
	}
	for n := range len(list) + 1 {
		got, _ := impl.DoActs(d, list[:n])
		check("DoActs", got)
		got, _ = impl.CutActs(d, list, n, left)
		check("CutActs", got)
	}
	got, _ := impl.LoseDisk(d, left)
	check("LoseDisk", got)
	impl.FileAt(d, "m")
	impl.DiskOk(d)
	impl.AllKept(d)
	check("a question", impl.Disk{})

	wrong := impl.Disk{Files: spare([]impl.File{file("b", "x", 9), file("a", "x", 0)}, mark)}
	same := slices.Clone(wrong.Files[:5])
	got, _ = impl.DoActs(wrong, list)
	for i := range got.Files {
		got.Files[i].Name = "over"
	}
	if !slices.Equal(wrong.Files[:5], same) {
		t.Error("DoActs of a wrong disk answers its argument's list")
	}
}
