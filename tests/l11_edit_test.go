package tests

import (
	"math"
	"slices"
	"strings"
	"testing"
	"unsafe"

	"loop.example/g00197/impl"
)

// editRule is what the document says of the records of a kind: whether Path may be `/`, and whether
// it may be a path with a name; whether To is one; the least and the greatest Num and Who.
type editRule struct {
	kind       int
	top, named bool
	to         bool
	num, who   [2]int
}

func editRules() []editRule {
	return []editRule{
		{kind: 1, named: true},
		{kind: 2, named: true, who: [2]int{1, 9}},
		{kind: 3, named: true, to: true},
		{kind: 4, named: true},
		{kind: 5, top: true, named: true, num: [2]int{1, 3}},
		{kind: 6, top: true, named: true, num: [2]int{0, 1000}},
		{kind: 7, named: true, num: [2]int{1, 200}},
		{kind: 8, named: true},
		{kind: 9, named: true, who: [2]int{1, 9}},
		{kind: 10, top: true},
	}
}

func between(n int, ends [2]int) bool {
	return n >= ends[0] && n <= ends[1]
}

func isNamedPath(p string) bool {
	names, ok := splitByBytes(p)
	return ok && len(names) > 0
}

func (rule editRule) allows(e impl.Edit) bool {
	path := rule.top && e.Path == "/" || rule.named && isNamedPath(e.Path)
	to := e.To == ""
	if rule.to {
		to = isNamedPath(e.To)
	}
	return e.Kind == rule.kind && path && to && between(e.Num, rule.num) && between(e.Who, rule.who)
}

// right is a right record of the kind, with the least Num and Who.
func (rule editRule) right() impl.Edit {
	e := impl.Edit{Kind: rule.kind, Path: "/", Num: rule.num[0], Who: rule.who[0]}
	if rule.named {
		e.Path = "/hall/door"
	}
	if rule.to {
		e.To = "/hall/gate"
	}
	return e
}

func plainEditOk(e impl.Edit) bool {
	return slices.ContainsFunc(editRules(), func(rule editRule) bool { return rule.allows(e) })
}

// numberByBytes is the shortest form of a number, also of one that VarText refuses.
func numberByBytes(n int) string {
	if n > 127 {
		return string([]byte{byte(n%128 + 128)}) + numberByBytes(n/128)
	}
	return string([]byte{byte(n)})
}

// editByBytes is EditText in the document's own words, of a record that need not be right.
func editByBytes(e impl.Edit) string {
	return string([]byte{byte(e.Kind), byte(e.Who)}) +
		numberByBytes(len(e.Path)) + e.Path + numberByBytes(len(e.To)) + e.To + numberByBytes(e.Num)
}

// plainReadEdit guesses a record, and asks whether it is right and has this text. No path of a right
// one is so long that its length is more than one byte.
func plainReadEdit(text string) (impl.Edit, bool) {
	if len(text) < 5 {
		return impl.Edit{}, false
	}
	behindPath := 3 + int(text[2])
	if behindPath >= len(text) {
		return impl.Edit{}, false
	}
	behindTo := behindPath + 1 + int(text[behindPath])
	if behindTo >= len(text) {
		return impl.Edit{}, false
	}
	e := impl.Edit{Kind: int(text[0]), Who: int(text[1]), Path: text[3:behindPath], To: text[behindPath+1 : behindTo]}
	for e.Num <= 1000 && numberByBytes(e.Num) != text[behindTo:] {
		e.Num++
	}
	if editByBytes(e) != text || !plainEditOk(e) {
		return impl.Edit{}, false
	}
	return e, true
}

func wantEdit(t *testing.T, e impl.Edit, text string) {
	t.Helper()
	if !impl.EditOk(e) {
		t.Errorf("EditOk(%#v) is false", e)
	}
	if got, ok := impl.EditText(e); !ok || got != text {
		t.Errorf("EditText(%#v) = %q, %t, want %q", e, got, ok, text)
	}
	if got, ok := impl.ReadEdit(text); !ok || got != e {
		t.Errorf("ReadEdit(%q) = %#v, %t, want %#v", text, got, ok, e)
	}
}

func wantNoEdit(t *testing.T, what string, e impl.Edit) {
	t.Helper()
	if impl.EditOk(e) {
		t.Errorf("%s: EditOk(%#v) is true", what, e)
	}
	if got, ok := impl.EditText(e); ok || got != "" {
		t.Errorf("%s: EditText(%#v) = %q, %t", what, e, got, ok)
	}
}

func wantEditOk(t *testing.T, what string, e impl.Edit, want bool) {
	t.Helper()
	if plainEditOk(e) != want {
		t.Errorf("%s: the test's own EditOk(%#v) is %t", what, e, !want)
	}
	if want {
		wantEdit(t, e, editByBytes(e))
	} else {
		wantNoEdit(t, what, e)
	}
}

func wantNotRead(t *testing.T, what, text string) {
	t.Helper()
	if e, ok := impl.ReadEdit(text); ok || e != (impl.Edit{}) {
		t.Errorf("%s: ReadEdit of %.80q, %d bytes = %#v, %t", what, text, len(text), e, ok)
	}
}

// wantReadAsPlain holds ReadEdit of any text against the test's own, and what it reads against EditText.
func wantReadAsPlain(t *testing.T, what, text string) {
	t.Helper()
	e, ok := plainReadEdit(text)
	if !ok {
		wantNotRead(t, what, text)
		return
	}
	wantEdit(t, e, text)
}

// pathsOfEachDepth has the root and paths of each depth, with the shortest and the longest names.
func pathsOfEachDepth() []string {
	paths := []string{"/"}
	for depth := 1; depth <= 4; depth++ {
		paths = append(paths, strings.Repeat("/a", depth), strings.Repeat("/zyxw9876", depth), strings.Repeat("/9", depth))
	}
	return paths
}

// someEdits has right records of each kind, with paths of each depth and each end of Num and Who.
func someEdits() []impl.Edit {
	var list []impl.Edit
	for _, rule := range editRules() {
		for i, p := range pathsOfEachDepth() {
			for _, num := range slices.Compact(rule.num[:]) {
				for _, who := range slices.Compact(rule.who[:]) {
					e := impl.Edit{Kind: rule.kind, Path: p, Num: num, Who: who}
					if rule.to {
						e.To = pathsOfEachDepth()[1+i%12]
					}
					if rule.allows(e) {
						list = append(list, e)
					}
				}
			}
		}
	}
	return list
}

func (d *draw) edit() impl.Edit {
	rule := editRules()[d.below(10)]
	e := rule.right()
	if rule.named {
		e.Path = joinByBytes(d.pathNames(1 + d.below(4))...)
	}
	if rule.top && d.below(4) == 0 {
		e.Path = "/"
	}
	if rule.to {
		e.To = joinByBytes(d.pathNames(1 + d.below(4))...)
	}
	e.Num += d.below(rule.num[1] - rule.num[0] + 1)
	e.Who += d.below(rule.who[1] - rule.who[0] + 1)
	return e
}

func TestKindsOfRecords(t *testing.T) {
	kinds := []int{impl.EdMake, impl.EdCreate, impl.EdMove, impl.EdDrop, impl.EdSchema, impl.EdQuota, impl.EdAdd, impl.EdClose, impl.EdOpen, impl.EdBoot}
	if !slices.Equal(kinds, []int{1, 2, 3, 4, 5, 6, 7, 8, 9, 10}) {
		t.Errorf("the kinds are %d", kinds)
	}
}

func TestRecordsThatAreWrittenOut(t *testing.T) {
	for text, e := range map[string]impl.Edit{
		"\x01\x00\x02/d\x00\x00":             {Kind: impl.EdMake, Path: "/d"},
		"\x01\x00\x08/a/b/c/d\x00\x00":       {Kind: impl.EdMake, Path: "/a/b/c/d"},
		"\x02\x01\x02/f\x00\x00":             {Kind: impl.EdCreate, Path: "/f", Who: 1},
		"\x02\x09\x04/d/f\x00\x00":           {Kind: impl.EdCreate, Path: "/d/f", Who: 9},
		"\x03\x00\x02/f\x04/d/g\x00":         {Kind: impl.EdMove, Path: "/f", To: "/d/g"},
		"\x03\x00\x02/f\x02/f\x00":           {Kind: impl.EdMove, Path: "/f", To: "/f"},
		"\x03\x00\x02/d\x04/d/e\x00":         {Kind: impl.EdMove, Path: "/d", To: "/d/e"},
		"\x04\x00\x05/hall\x00\x00":          {Kind: impl.EdDrop, Path: "/hall"},
		"\x05\x00\x01/\x00\x03":              {Kind: impl.EdSchema, Path: "/", Num: 3},
		"\x05\x00\x02/d\x00\x01":             {Kind: impl.EdSchema, Path: "/d", Num: 1},
		"\x06\x00\x01/\x00\x00":              {Kind: impl.EdQuota, Path: "/"},
		"\x06\x00\x02/d\x00\x7f":             {Kind: impl.EdQuota, Path: "/d", Num: 127},
		"\x06\x00\x02/d\x00\x80\x01":         {Kind: impl.EdQuota, Path: "/d", Num: 128},
		"\x06\x00\x02/d\x00\xff\x01":         {Kind: impl.EdQuota, Path: "/d", Num: 255},
		"\x06\x00\x02/d\x00\x80\x02":         {Kind: impl.EdQuota, Path: "/d", Num: 256},
		"\x06\x00\x02/d\x00\xe8\x07":         {Kind: impl.EdQuota, Path: "/d", Num: 1000},
		"\x07\x00\x02/f\x00\x03":             {Kind: impl.EdAdd, Path: "/f", Num: 3},
		"\x07\x00\x02/f\x00\x7f":             {Kind: impl.EdAdd, Path: "/f", Num: 127},
		"\x07\x00\x02/f\x00\x80\x01":         {Kind: impl.EdAdd, Path: "/f", Num: 128},
		"\x07\x00\x02/f\x00\xc8\x01":         {Kind: impl.EdAdd, Path: "/f", Num: 200},
		"\x08\x00\x09/abcdefgh\x00\x00":      {Kind: impl.EdClose, Path: "/abcdefgh"},
		"\x09\x05\x03/00\x00\x00":            {Kind: impl.EdOpen, Path: "/00", Who: 5},
		"\x0a\x00\x01/\x00\x00":              {Kind: impl.EdBoot, Path: "/"},
		"\x03\x00\x06/a/b/c\x08/c/b/a/0\x00": {Kind: impl.EdMove, Path: "/a/b/c", To: "/c/b/a/0"},
	} {
		wantEdit(t, e, text)
		if got := editByBytes(e); got != text || !plainEditOk(e) {
			t.Errorf("the test's own EditText(%#v) is %q, not %q", e, got, text)
		}
		if got, ok := plainReadEdit(text); got != e || !ok {
			t.Errorf("the test's own ReadEdit(%q) is %#v, %t", text, got, ok)
		}
	}
}

// Each Num and Who that a kind may have comes with paths of each depth.
func TestRecordsComeBackFromTheirTexts(t *testing.T) {
	for _, rule := range editRules() {
		count := 0
		for i, p := range pathsOfEachDepth() {
			for num := rule.num[0]; num <= rule.num[1]; num++ {
				for who := rule.who[0]; who <= rule.who[1]; who++ {
					e := impl.Edit{Kind: rule.kind, Path: p, Num: num, Who: who}
					if rule.to {
						e.To = pathsOfEachDepth()[1+(num+i)%12]
					}
					if !rule.allows(e) {
						continue
					}
					count++
					wantEdit(t, e, editByBytes(e))
				}
			}
		}
		if count == 0 {
			t.Errorf("no record of the kind %d is tried", rule.kind)
		}
	}
}

func TestDrawnRecordsComeBackFromTheirTexts(t *testing.T) {
	d := draw(116)
	for range 5000 {
		e := d.edit()
		text, ok := impl.EditText(e)
		if !ok || !impl.EditOk(e) {
			t.Fatalf("EditText(%#v) is false", e)
		}
		back, ok := impl.ReadEdit(text)
		if !ok || back != e {
			t.Fatalf("ReadEdit(%q) = %#v, %t, want %#v", text, back, ok, e)
		}
		if again, ok := impl.EditText(back); !ok || again != text {
			t.Fatalf("EditText(%#v) = %q, %t, want %q", back, again, ok, text)
		}
	}
}

func TestMovesBetweenAllDepths(t *testing.T) {
	for _, p := range pathsOfEachDepth()[1:] {
		for _, to := range pathsOfEachDepth()[1:] {
			e := impl.Edit{Kind: impl.EdMove, Path: p, To: to}
			wantEdit(t, e, editByBytes(e))
		}
	}
	longest := strings.Repeat("/abcdefgh", 4)
	e := impl.Edit{Kind: impl.EdMove, Path: longest, To: longest}
	wantEdit(t, e, "\x03\x00\x24"+longest+"\x24"+longest+"\x00")
}

func TestNoTwoRecordsHaveOneText(t *testing.T) {
	list := someEdits()
	d := draw(117)
	for range 5000 {
		list = append(list, d.edit())
	}
	seen := map[string]impl.Edit{}
	for _, e := range list {
		text, _ := impl.EditText(e)
		if other, ok := seen[text]; ok && other != e {
			t.Fatalf("%#v and %#v have the text %q", e, other, text)
		}
		seen[text] = e
	}
}

func TestRecordsByTheirKinds(t *testing.T) {
	for _, rule := range editRules() {
		for kind := -20; kind <= 300; kind++ {
			e := rule.right()
			e.Kind = kind
			wantEditOk(t, "a kind", e, plainEditOk(e))
		}
		for _, kind := range []int{-1, 0, 11, 12, 128, 255, 256, math.MinInt, math.MaxInt} {
			e := rule.right()
			e.Kind = kind
			wantEditOk(t, "a kind that is none", e, false)
		}
		wantEditOk(t, "its own kind", rule.right(), true)
	}
	wantNoEdit(t, "the zero value", impl.Edit{})
}

func TestRecordsByTheirNums(t *testing.T) {
	edges := map[int]map[int]bool{
		impl.EdSchema: {-1: false, 0: false, 1: true, 2: true, 3: true, 4: false},
		impl.EdQuota:  {-2: false, -1: false, 0: true, 1: true, 127: true, 128: true, 999: true, 1000: true, 1001: false, 1002: false},
		impl.EdAdd:    {-1: false, 0: false, 1: true, 127: true, 128: true, 199: true, 200: true, 201: false, 1000: false},
	}
	for _, rule := range editRules() {
		nums, ok := edges[rule.kind]
		if !ok {
			nums = map[int]bool{-1: false, 0: true, 1: false, 2: false, 3: false, 200: false, 1000: false, -1000: false}
		}
		for num, want := range nums {
			e := rule.right()
			e.Num = num
			wantEditOk(t, "a Num", e, want)
		}
		for num := -300; num <= 1500; num++ {
			e := rule.right()
			e.Num = num
			wantEditOk(t, "a Num", e, plainEditOk(e))
		}
	}
}

func TestRecordsByTheirWhos(t *testing.T) {
	for _, rule := range editRules() {
		holder := rule.kind == impl.EdCreate || rule.kind == impl.EdOpen
		for who := -300; who <= 300; who++ {
			e := rule.right()
			e.Who = who
			want := who == 0
			if holder {
				want = who >= 1 && who <= 9
			}
			wantEditOk(t, "a Who", e, want)
		}
	}
}

// roundAbout has n and others that are alike with it in their lowest bits, and the ends of an int.
func roundAbout(n int) []int {
	list := []int{math.MinInt, math.MinInt + 1, math.MinInt + n, math.MaxInt, math.MaxInt - 1, math.MaxInt - 255 + n, ^n}
	for bit := 7; bit < 63; bit++ {
		list = append(list, n+1<<bit, n-1<<bit, n+3<<(bit-1))
	}
	for times := 1; times < 40; times++ {
		list = append(list, n+256*times, n-256*times)
	}
	return append(list, farNumbers()...)
}

// Taken as fewer bits, the numbers of these would be right ones.
func TestRecordsWithNumbersThatWrapRound(t *testing.T) {
	for _, rule := range editRules() {
		right := rule.right()
		for _, far := range roundAbout(right.Kind) {
			e := right
			e.Kind = far
			wantEditOk(t, "a Kind", e, false)
		}
		for _, far := range roundAbout(right.Num) {
			e := right
			e.Num = far
			wantEditOk(t, "a Num", e, between(far, rule.num))
		}
		for _, least := range rule.who {
			for _, far := range roundAbout(least) {
				e := right
				e.Who = far
				wantEditOk(t, "a Who", e, between(far, rule.who))
			}
		}
	}
}

// textsThatAreNoPaths are paths of nothing, or none at all.
func textsThatAreNoPaths() map[string]string {
	texts := map[string]string{
		"nothing":              "",
		"no slash ahead":       "hall",
		"two names, no slash":  "hall/door",
		"a slash behind":       "/hall/",
		"a slash behind four":  "/a/b/c/d/",
		"two slashes":          "//",
		"two slashes ahead":    "//hall",
		"two slashes between":  "/hall//door",
		"one name too many":    "/a/b/c/d/e",
		"two names too many":   "/a/b/c/d/e/f",
		"the root and a blank": "/ ",
		"the root and a 0":     "/\x00",
		"a path and a 0":       "/hall\x00",
		"a path and a line":    "/hall\n",
		"127 bytes":            "/" + strings.Repeat("a", 126),
		"128 bytes":            "/" + strings.Repeat("a", 127),
		"256 bytes":            "/" + strings.Repeat("a", 255),
		"MaxText bytes":        "/" + strings.Repeat("a", impl.MaxText-1),
		"more than MaxText":    strings.Repeat("/a", impl.MaxText),
	}
	for what, none := range noNames() {
		if none != "" {
			texts["one name: "+what] = "/" + none
		}
		texts["a second name: "+what] = "/hall/" + none
		texts["a first name: "+what] = "/" + none + "/door"
	}
	return texts
}

func TestRecordsByTheirPaths(t *testing.T) {
	for _, rule := range editRules() {
		topToo := rule.kind == impl.EdSchema || rule.kind == impl.EdQuota
		for depth, p := range []string{"/", "/a", "/a/b", "/a/b/c", "/a/b/c/d", "/a/b/c/d/e"} {
			e := rule.right()
			e.Path = p
			switch {
			case rule.kind == impl.EdBoot:
				wantEditOk(t, "a path of a boot", e, depth == 0)
			case topToo:
				wantEditOk(t, "a path where the root may be", e, depth <= 4)
			default:
				wantEditOk(t, "a path", e, depth >= 1 && depth <= 4)
			}
		}
		for what, p := range textsThatAreNoPaths() {
			e := rule.right()
			e.Path = p
			if plainEditOk(e) {
				t.Errorf("%s: the test's own EditOk is true", what)
			}
			wantNoEdit(t, what, e)
			wantNotRead(t, what, editByBytes(e))
		}
	}
}

func TestRecordsByTheirTo(t *testing.T) {
	for _, rule := range editRules() {
		for depth, to := range []string{"/", "/a", "/a/b", "/a/b/c", "/a/b/c/d", "/a/b/c/d/e"} {
			e := rule.right()
			e.To = to
			wantEditOk(t, "a To", e, rule.kind == impl.EdMove && depth >= 1 && depth <= 4)
		}
		for what, to := range textsThatAreNoPaths() {
			e := rule.right()
			e.To = to
			if to == "" && rule.kind != impl.EdMove {
				wantEditOk(t, "no To", e, true)
				continue
			}
			wantNoEdit(t, what, e)
			wantNotRead(t, what, editByBytes(e))
		}
	}
}

// Several fields are changed at once, to such as are right in some kind or in none.
func TestRecordsThatAreDrawnAndChanged(t *testing.T) {
	d := draw(118)
	texts := []string{"", "/", "/a", "/a/b", "/a/b/c/d", "/a/b/c/d/e", "/a/", "a", "/A"}
	nums := []int{-1, 0, 1, 2, 3, 4, 9, 10, 127, 128, 200, 201, 256, 257, 1000, 1001}
	right := 0
	for range 30000 {
		e := d.edit()
		for range d.below(3) {
			switch d.below(5) {
			case 0:
				e.Kind = d.below(13) - 1
			case 1:
				e.Path = texts[d.below(len(texts))]
			case 2:
				e.To = texts[d.below(len(texts))]
			case 3:
				e.Num = nums[d.below(len(nums))]
			case 4:
				e.Who = nums[d.below(len(nums))]
			}
		}
		want := plainEditOk(e)
		if want {
			right++
		} else if e.Num >= 0 {
			// Bytes that are written as those of a record are, but of one that is not right.
			wantReadAsPlain(t, "a record that is not right", editByBytes(e))
		}
		wantEditOk(t, "a record with changes", e, want)
	}
	if right < 1000 || right > 29000 {
		t.Errorf("%d of 30000 are right", right)
	}
}

func TestReadEditOfFewBytes(t *testing.T) {
	wantNotRead(t, "nothing", "")
	for a := range 256 {
		wantNotRead(t, "one byte", string([]byte{byte(a)}))
		for b := range 256 {
			wantNotRead(t, "two bytes", string([]byte{byte(a), byte(b)}))
		}
	}
	want := []string{"\x0a\x00\x01/\x00\x00", "\x01\x00\x02/a\x00\x00", "\x02\x01\x02/a\x00\x00", "\x02\x02\x02/a\x00\x00"}
	for _, text := range textsOf("\x00\x01\x02\x0a/a", 7) {
		if !slices.Contains(want, text) {
			wantNotRead(t, "few bytes", text)
		} else if _, ok := impl.ReadEdit(text); !ok {
			t.Errorf("ReadEdit(%q) is false", text)
		}
	}
}

func TestTextsThatAreCut(t *testing.T) {
	for _, e := range someEdits() {
		text := editByBytes(e)
		for cut := range len(text) {
			wantNotRead(t, "cut", text[:cut])
			if cut > 0 {
				wantReadAsPlain(t, "cut ahead", text[cut:])
			}
		}
	}
}

func TestTextsWithBytesBehindOrAhead(t *testing.T) {
	for _, e := range someEdits() {
		text := editByBytes(e)
		for b := range 256 {
			more := string([]byte{byte(b)})
			wantNotRead(t, "a byte more behind", text+more)
			wantReadAsPlain(t, "a byte more ahead", more+text)
		}
		wantNotRead(t, "twice", text+text)
		wantNotRead(t, "its seal behind", sealedByBits(text))
		wantNotRead(t, "its frame", frameByBits(text))
		wantNotRead(t, "many bytes behind", text+strings.Repeat("\x00", impl.MaxText+1))
	}
}

// A turned byte may make another right record; it never leaves the record that it was.
func TestTextsWithAByteTurned(t *testing.T) {
	others := 0
	for _, rule := range editRules() {
		for _, num := range slices.Compact([]int{rule.num[0], min(128, rule.num[1]), rule.num[1]}) {
			e := rule.right()
			e.Num, e.Who = num, rule.who[1]
			text := editByBytes(e)
			for at := range len(text) {
				for bits := 1; bits < 256; bits++ {
					bad := turned(text, at, byte(bits))
					wantReadAsPlain(t, "a byte turned", bad)
					got, ok := impl.ReadEdit(bad)
					if ok && got == e {
						t.Fatalf("ReadEdit(%q) is the record of %q", bad, text)
					}
					if ok {
						others++
					}
				}
			}
		}
	}
	if others == 0 {
		t.Error("no byte that is turned makes another record: no letter of a name was")
	}
}

func TestTextsWithAByteMoreOrLess(t *testing.T) {
	for _, rule := range editRules() {
		text := editByBytes(rule.right())
		for at := range len(text) {
			wantReadAsPlain(t, "a byte less", text[:at]+text[at+1:])
			for b := range 256 {
				wantReadAsPlain(t, "a byte more", text[:at]+string([]byte{byte(b)})+text[at:])
			}
		}
	}
}

// longerForms are other forms of a number, of one to eleven bytes more.
func longerForms(n int) []string {
	short := numberByBytes(n)
	form := short[:len(short)-1] + string([]byte{short[len(short)-1] | 128})
	var list []string
	for more := range 11 {
		list = append(list, form+strings.Repeat("\x80", more)+"\x00")
	}
	return list
}

// greatForms are numbers that are too great for a length; as fewer bits some of them are n.
func greatForms(n int) []string {
	list := []string{
		numberByBytes(n + 128), numberByBytes(n + 256), numberByBytes(n + 1<<14), numberByBytes(n + 1<<16),
		numberByBytes(impl.MaxText), numberByBytes(impl.MaxText + 1), numberByBytes(impl.MaxNumber), numberByBytes(impl.MaxNumber + 1),
		numberByBytes(n + 1<<31), numberByBytes(n + 1<<32), numberByBytes(n + 1<<62), numberByBytes(math.MaxInt),
		numberByBytes(math.MaxInt32), numberByBytes(math.MaxUint32),
		strings.Repeat("\xff", 9) + "\x01", strings.Repeat("\xff", 9) + "\x7f", strings.Repeat("\xff", 400) + "\x01", strings.Repeat("\x80", 400),
	}
	// The bit 64, which no int has, and n below it.
	form := []byte(longerForms(n)[0])
	form = append(form[:len(form)-1], strings.Repeat("\x80", 9-(len(form)-1))...)
	return append(list, string(form)+"\x02")
}

func TestNumbersInOtherForms(t *testing.T) {
	for _, e := range someEdits() {
		head := string([]byte{byte(e.Kind), byte(e.Who)})
		pathLength, toLength, num := numberByBytes(len(e.Path)), numberByBytes(len(e.To)), numberByBytes(e.Num)
		if head+pathLength+e.Path+toLength+e.To+num != editByBytes(e) {
			t.Fatalf("the parts of %#v are not its text", e)
		}
		for _, form := range longerForms(len(e.Path)) {
			wantNotRead(t, "a longer form of the length of Path", head+form+e.Path+toLength+e.To+num)
		}
		for _, form := range longerForms(len(e.To)) {
			wantNotRead(t, "a longer form of the length of To", head+pathLength+e.Path+form+e.To+num)
		}
		for _, form := range longerForms(e.Num) {
			wantNotRead(t, "a longer form of Num", head+pathLength+e.Path+toLength+e.To+form)
		}
		for _, form := range greatForms(len(e.Path)) {
			wantNotRead(t, "a great length of Path", head+form+e.Path+toLength+e.To+num)
			wantNotRead(t, "a great length of Path at the end", head+form)
		}
		for _, form := range greatForms(len(e.To)) {
			wantNotRead(t, "a great length of To", head+pathLength+e.Path+form+e.To+num)
			wantNotRead(t, "a great length of To at the end", head+pathLength+e.Path+form)
		}
		for _, form := range greatForms(e.Num) {
			wantReadAsPlain(t, "a great Num", head+pathLength+e.Path+toLength+e.To+form)
		}
	}
}

func TestNumsThatAreTooGreat(t *testing.T) {
	for _, rule := range editRules() {
		e := rule.right()
		for _, num := range []int{rule.num[1] + 1, rule.num[1] + 2, 1001, 2000, 16384, impl.MaxNumber - 1, impl.MaxNumber, impl.MaxNumber + 1, rule.num[0] + 1<<32, rule.num[0] + 1<<62, math.MaxInt} {
			e.Num = num
			wantNotRead(t, "a Num that is too great", editByBytes(e))
		}
	}
}

func TestLengthsThatPassTheEnd(t *testing.T) {
	for _, e := range someEdits() {
		head := string([]byte{byte(e.Kind), byte(e.Who)})
		behind := numberByBytes(len(e.To)) + e.To + numberByBytes(e.Num)
		for more := 1; more <= 200; more++ {
			wantNotRead(t, "a length of Path that is too great", head+numberByBytes(len(e.Path)+more)+e.Path+behind)
			wantNotRead(t, "a length of To that is too great",
				head+numberByBytes(len(e.Path))+e.Path+numberByBytes(len(e.To)+more)+e.To+numberByBytes(e.Num))
		}
		wantNotRead(t, "a Path up to the end", head+numberByBytes(len(e.Path))+e.Path)
		wantNotRead(t, "a To up to the end", head+numberByBytes(len(e.Path))+e.Path+numberByBytes(len(e.To))+e.To)
		wantNotRead(t, "no Path", head)
	}
}

func TestReadEditOfEachKindAndWho(t *testing.T) {
	for _, rule := range editRules() {
		rest := editByBytes(rule.right())[2:]
		for kind := range 256 {
			for who := range 256 {
				text := string([]byte{byte(kind), byte(who)}) + rest
				if kind == 0 || kind > 10 || who > 9 {
					wantNotRead(t, "a Kind or a Who that is none", text)
					continue
				}
				wantReadAsPlain(t, "a Kind and a Who", text)
			}
		}
	}
}

// The fields stand in the order that the document says, and in no other.
func TestFieldsInAnotherOrder(t *testing.T) {
	wantNotRead(t, "Who ahead of Kind", "\x05\x09\x02/f\x00\x00")
	wantNotRead(t, "To ahead of Path", "\x04\x00\x00\x02/f\x00")
	wantNotRead(t, "Num ahead of the paths", "\x07\x00\x03\x02/f\x00")
	wantNotRead(t, "Num ahead of To", "\x07\x00\x02/f\x03\x00")
	wantNotRead(t, "Who behind", "\x09\x02/f\x00\x00\x05")
	wantNotRead(t, "no Num", "\x01\x00\x02/f\x00")
	wantNotRead(t, "no To and no Num", "\x01\x00\x02/f")
	wantNotRead(t, "no lengths", "\x01\x00/f")
	wantNotRead(t, "figures", "1000")
	if e, ok := impl.ReadEdit("\x03\x00\x02/g\x02/f\x00"); !ok || e != (impl.Edit{Kind: impl.EdMove, Path: "/g", To: "/f"}) {
		t.Errorf("of a move from /g to /f %#v is read, %t", e, ok)
	}
}

func TestReadEditOfDrawnBytes(t *testing.T) {
	d := draw(119)
	read := 0
	for range 60000 {
		text := []byte(editByBytes(d.edit()))
		for range d.below(4) {
			at := d.below(len(text) + 1)
			switch d.below(5) {
			case 0:
				text = slices.Insert(text, at, byte(d.below(256)))
			case 1:
				text = slices.Insert(text, at, byte(d.below(12)))
			case 2:
				text = slices.Delete(text, at, min(at+1, len(text)))
			case 3:
				text = text[:at]
			case 4:
				text = append(text, text[at:]...)
			}
		}
		wantReadAsPlain(t, "drawn bytes", string(text))
		if _, ok := impl.ReadEdit(string(text)); ok {
			read++
		}
		wantReadAsPlain(t, "bytes of any kind", d.text(d.below(20)))
	}
	if read < 1000 || read > 59000 {
		t.Errorf("%d of 60000 texts are read", read)
	}
}

func TestReadEditOfManyBytes(t *testing.T) {
	for _, b := range []string{"\x00", "\x01", "\x0a", "/", "\x7f", "\x80", "\xff"} {
		for _, length := range []int{3, 5, 127, 128, 1000, impl.MaxText, impl.MaxText + 1, math.MaxUint16, 1 << 20} {
			wantNotRead(t, "one byte again and again", strings.Repeat(b, length))
			wantNotRead(t, "one byte behind Kind and Who", "\x01\x00"+strings.Repeat(b, length))
		}
	}
	long := strings.Repeat("/a", impl.MaxText/2)
	wantNotRead(t, "a Path of MaxText bytes", "\x01\x00"+numberByBytes(len(long))+long+"\x00\x00")
	wantNotRead(t, "a To of MaxText bytes", "\x03\x00\x02/a"+numberByBytes(len(long))+long+"\x00")
	wantNotRead(t, "a Path of more", "\x01\x00"+numberByBytes(len(long)+1)+long+"b\x00\x00")
}

// A panic that is the caller's own is not the reader's to catch.
func TestReadEditWhileACallerPanics(t *testing.T) {
	defer func() {
		if fault := recover(); fault != "the caller's own" {
			t.Errorf("the caller's panic is %v", fault)
		}
	}()
	defer func() {
		wantNotRead(t, "while a caller panics", "\x01\x00\x02/f")
		wantEdit(t, impl.Edit{Kind: impl.EdMake, Path: "/f"}, "\x01\x00\x02/f\x00\x00")
	}()
	panic("the caller's own")
}

func TestRecordsAreToldAlikeEachTime(t *testing.T) {
	good, bad := "\x03\x00\x02/f\x04/d/g\x00", "\x03\x00\x02/f\x04/d/g"
	for range 100 {
		wantNotRead(t, "a torn one", bad)
		wantEdit(t, impl.Edit{Kind: impl.EdMove, Path: "/f", To: "/d/g"}, good)
		wantNoEdit(t, "the zero value", impl.Edit{})
	}
}

func TestRecordsWriteIntoNoArgument(t *testing.T) {
	for _, text := range []string{"\x03\x00\x02/f\x04/d/g\x00", "\x03\x00\x02/f\x04/d/g", "\x01\x00\x82\x00/f\x00\x00", "\x06\x00\x01/\x00\xe8\x07", "\x0b\x00\x01/\x00\x00"} {
		room := []byte(text + "behind")
		impl.ReadEdit(unsafe.String(&room[0], len(text)))
		if string(room) != text+"behind" {
			t.Errorf("a text, or what is behind it, is written into: %q, not %q", room, text+"behind")
		}
	}
	for _, e := range []impl.Edit{{Kind: impl.EdMove, Path: "/hall", To: "/door"}, {Kind: impl.EdMake, Path: "/hall", To: "/door"}, {Kind: impl.EdMove, Path: "/hall/", To: "door"}} {
		path, to := []byte(e.Path+"behind"), []byte(e.To+"behind")
		seen := e
		seen.Path, seen.To = unsafe.String(&path[0], len(e.Path)), unsafe.String(&to[0], len(e.To))
		impl.EditOk(seen)
		impl.EditText(seen)
		if string(path) != e.Path+"behind" || string(to) != e.To+"behind" {
			t.Errorf("a path, or what is behind it, is written into: %q, %q", path, to)
		}
	}
}

func TestRecordsAreNewMemory(t *testing.T) {
	for _, e := range someEdits() {
		e.Path, e.To = ownText(e.Path), ownText(e.To)
		text, _ := impl.EditText(e)
		wantNewTexts(t, "EditText", []string{text}, []string{e.Path, e.To})
		back, ok := impl.ReadEdit(text)
		if !ok {
			t.Fatalf("ReadEdit(%q) is false", text)
		}
		var answer []string
		for _, p := range []string{back.Path, back.To} {
			// A text of a byte or none needs no memory of its own.
			if len(p) > 1 {
				answer = append(answer, p)
			}
		}
		wantNewTexts(t, "ReadEdit", answer, []string{text})
	}
}

// What a log needs of records: whatever a torn frame leaves, those that are whole come back.
func TestRecordsComeBackFromTheirFrames(t *testing.T) {
	d := draw(120)
	for range 100 {
		var list []impl.Edit
		file := ""
		for range 1 + d.below(6) {
			e := d.edit()
			text, ok := impl.EditText(e)
			if !ok {
				t.Fatalf("EditText(%#v) is false", e)
			}
			list = append(list, e)
			file += framed(t, text)
		}
		records, end := impl.Unframe(file + framed(t, "torn")[:5])
		if len(records) != len(list) || end != len(file) {
			t.Fatalf("%d records of %d come back", len(records), len(list))
		}
		for i, record := range records {
			if e, ok := impl.ReadEdit(record); !ok || e != list[i] {
				t.Errorf("ReadEdit(%q) = %#v, %t, want %#v", record, e, ok, list[i])
			}
		}
	}
}
