package tests

import (
	"slices"
	"strings"
	"testing"
	"unsafe"

	"loop.example/g00197/impl"
)

const nameBytes = "abcdefghijklmnopqrstuvwxyz0123456789"

// nameByBytes is NameOk in the document's own words.
func nameByBytes(s string) bool {
	for i := range len(s) {
		if strings.IndexByte(nameBytes, s[i]) < 0 {
			return false
		}
	}
	return len(s) >= 1 && len(s) <= 8
}

// splitByBytes is SplitPath name by name, each behind a slash of its own.
func splitByBytes(p string) ([]string, bool) {
	if p == "/" {
		return nil, true
	}
	var names []string
	for at := 0; at < len(p); {
		if p[at] != '/' {
			return nil, false
		}
		behind := at + 1
		for behind < len(p) && p[behind] != '/' {
			behind++
		}
		if !nameByBytes(p[at+1 : behind]) {
			return nil, false
		}
		names = append(names, p[at+1:behind])
		at = behind
	}
	return names, len(names) >= 1 && len(names) <= 4
}

func joinByBytes(names ...string) string {
	p := ""
	for _, name := range names {
		p += "/" + name
	}
	if p == "" {
		return "/"
	}
	return p
}

// pathName draws a name of 1 to 8 bytes.
func (d *draw) pathName() string {
	var name []byte
	for range 1 + d.below(8) {
		name = append(name, nameBytes[d.below(len(nameBytes))])
	}
	return string(name)
}

func (d *draw) pathNames(count int) []string {
	var names []string
	for range count {
		names = append(names, d.pathName())
	}
	return names
}

// textsOf has every text of up to longest of these bytes.
func textsOf(bytes string, longest int) []string {
	all := []string{""}
	last := all
	for range longest {
		var next []string
		for _, text := range last {
			for i := range len(bytes) {
				next = append(next, text+bytes[i:i+1])
			}
		}
		all, last = append(all, next...), next
	}
	return all
}

// noNames has texts that are no names, whose runes or bytes look like those of one.
func noNames() map[string]string {
	return map[string]string{
		"nothing":                   "",
		"nine bytes":                "abcdefghi",
		"nine figures":              "012345678",
		"many bytes":                strings.Repeat("a", 264),
		"a capital":                 "Hall",
		"a capital behind":          "halL",
		"a blank":                   "a b",
		"a blank ahead":             " ab",
		"a blank behind":            "ab ",
		"a dot":                     ".",
		"two dots":                  "..",
		"a dot in it":               "a.b",
		"a dash":                    "a-b",
		"a dash ahead":              "-1",
		"a line below":              "a_b",
		"a backslash":               "a\\b",
		"a byte of 0":               "\x00",
		"a byte of 0 behind":        "ab\x00",
		"a byte of 0 within":        "a\x00b",
		"a new line":                "ab\n",
		"a byte of 127":             "a\x7f",
		"a byte of 128":             "a\x80",
		"a byte of 255":             "\xff",
		"bytes from 128 on":         "\xe1\xe2\xe3",
		"letters with 128":          "\xe1\xe2b",
		"a letter of two bytes":     "\u00e9",
		"one within":                "caf\u00e9a",
		"a letter of three bytes":   "\u65e5",
		"a letter of four bytes":    "\U0001d4b6",
		"wide figures":              "\uff11\uff12",
		"other figures":             "\u0663\u0664",
		"a small s that is long":    "hau\u017f",
		"the sign of Kelvin":        "boo\u212a",
		"a dotless i":               "\u0131",
		"a rune that ends as an a":  "\u0161",
		"a rune that ends as a z":   "b\u017a",
		"a rune that ends as a 0":   "\u0130",
		"a rune that ends as a 9":   "\u0239a",
		"a rune that ends far off":  "\U00010061",
		"a rune that ends as slash": "a\u012f",
		"the rune of no text":       "\ufffd",
		"eight runes, not bytes":    "abcdefg\u00e9",
		"eight runes of two bytes":  "\u00e9\u00e9\u00e9\u00e9\u00e9\u00e9\u00e9\u00e9",
		"half a rune":               "a\xc3",
		"the other half":            "\xa9a",
		"a longer form of an a":     "\xc1\xa1",
		"a longer form of a slash":  "a\xc0\xafb",
		"a surrogate":               "\xed\xa0\x80",
		"behind the last rune":      "\xf4\x90\x80\x80",
		"a mark at the beginning":   "\ufeffa",
		"a mark upon a letter":      "a\u0301",
	}
}

func wantName(t *testing.T, s string, want bool) {
	t.Helper()
	if got := impl.NameOk(s); got != want {
		t.Errorf("NameOk(%q) = %t", s, got)
	}
}

func wantSplit(t *testing.T, p string, want ...string) {
	t.Helper()
	if got, ok := impl.SplitPath(p); !ok || !slices.Equal(got, want) {
		t.Errorf("SplitPath(%q) = %q, %t, want %q", p, got, ok, want)
	}
}

func wantPathJoined(t *testing.T, names []string, want string) {
	t.Helper()
	if got := impl.JoinPath(names); got != want {
		t.Errorf("JoinPath(%q) = %q, want %q", names, got, want)
	}
}

func wantParent(t *testing.T, p, parent, name string) {
	t.Helper()
	if up, last, ok := impl.ParentPath(p); !ok || up != parent || last != name {
		t.Errorf("ParentPath(%q) = %q, %q, %t, want %q, %q", p, up, last, ok, parent, name)
	}
}

func wantNoParent(t *testing.T, what, p string) {
	t.Helper()
	if up, last, ok := impl.ParentPath(p); ok || up != "" || last != "" {
		t.Errorf("%s: ParentPath of %.40q, %d bytes = %.40q, %.40q, %t", what, p, len(p), up, last, ok)
	}
}

func wantNoPath(t *testing.T, what, p string) {
	t.Helper()
	if got, ok := impl.SplitPath(p); ok || len(got) != 0 {
		t.Errorf("%s: SplitPath of %.40q, %d bytes = %d names, %t", what, p, len(p), len(got), ok)
	}
	wantNoParent(t, what, p)
}

// wantPathAsByBytes holds SplitPath and ParentPath of p, be it a path or none, against the test's own.
func wantPathAsByBytes(t *testing.T, p string) {
	t.Helper()
	names, ok := splitByBytes(p)
	if !ok {
		wantNoPath(t, "no path", p)
		return
	}
	wantSplit(t, p, names...)
	wantPathJoined(t, names, p)
	if len(names) == 0 {
		wantNoParent(t, "no names", p)
		return
	}
	last := len(names) - 1
	wantParent(t, p, joinByBytes(names[:last]...), names[last])
}

func TestNamesThatAreWrittenOut(t *testing.T) {
	if impl.MaxDepth != 4 {
		t.Errorf("MaxDepth is %d", impl.MaxDepth)
	}
	for _, s := range []string{"a", "z", "0", "9", "m", "5", "az", "09", "a0", "0a", "z9", "9z", "hall", "log2", "2026", "00000000", "99999999", "aaaaaaaa", "zzzzzzzz", "abcdefgh", "01234567", "a1b2c3d4"} {
		wantName(t, s, true)
	}
	for what, s := range noNames() {
		if nameByBytes(s) {
			t.Errorf("%s: the test's own NameOk(%q) is true", what, s)
		}
		wantName(t, s, false)
	}
}

func TestNamesByTheirLengths(t *testing.T) {
	d := draw(103)
	for length := range 40 {
		for range 50 {
			var s []byte
			for range length {
				s = append(s, nameBytes[d.below(len(nameBytes))])
			}
			wantName(t, string(s), length >= 1 && length <= 8)
		}
	}
	for _, length := range []int{256, 257, 264, 1 << 16, 1<<16 + 1, 1<<16 + 8, 1 << 20} {
		wantName(t, strings.Repeat("a", length), false)
	}
}

// Each byte stands alone, and at each place of a name of each length.
func TestNamesByTheirBytes(t *testing.T) {
	for _, of := range []string{"a", "9"} {
		for length := 1; length <= 9; length++ {
			for at := range length {
				for b := range 256 {
					s := []byte(strings.Repeat(of, length))
					s[at] = byte(b)
					want := length <= 8 && strings.IndexByte(nameBytes, byte(b)) >= 0
					wantName(t, string(s), want)
				}
			}
		}
	}
	for _, b := range []byte{'a' - 1, 'z' + 1, '0' - 1, '9' + 1} {
		wantName(t, string([]byte{b}), false)
	}
}

func TestNamesByTheirRunes(t *testing.T) {
	for r := rune(0); r < 0x3000; r++ {
		wantName(t, string(r), strings.ContainsRune(nameBytes, r))
		wantName(t, "a"+string(r)+"9", strings.ContainsRune(nameBytes, r))
	}
	// Those whose lowest bits are an a, a z, a 0, a 9 or a slash.
	for high := rune(0x100); high <= 0x10ff00; high += 0x100 {
		for _, low := range "az09/" {
			wantName(t, string(high+low), false)
		}
	}
}

func TestNamesOfDrawnBytes(t *testing.T) {
	d := draw(104)
	for range 20000 {
		s := []byte(d.pathName())
		for range d.below(3) {
			s[d.below(len(s))] = byte(d.below(256))
		}
		wantName(t, string(s), nameByBytes(string(s)))
	}
}

func TestPathsThatAreWrittenOut(t *testing.T) {
	wantSplit(t, "/")
	wantNoParent(t, "the root", "/")
	for _, c := range []struct {
		p, parent, name string
		names           []string
	}{
		{"/a", "/", "a", []string{"a"}},
		{"/9", "/", "9", []string{"9"}},
		{"/hall", "/", "hall", []string{"hall"}},
		{"/abcdefgh", "/", "abcdefgh", []string{"abcdefgh"}},
		{"/a/b", "/a", "b", []string{"a", "b"}},
		{"/a/a", "/a", "a", []string{"a", "a"}},
		{"/hall/door", "/hall", "door", []string{"hall", "door"}},
		{"/z/a/0", "/z/a", "0", []string{"z", "a", "0"}},
		{"/1/2/3/4", "/1/2/3", "4", []string{"1", "2", "3", "4"}},
		{"/a/a/a/a", "/a/a/a", "a", []string{"a", "a", "a", "a"}},
		{"/abcdefgh/01234567/zzzzzzzz/99999999", "/abcdefgh/01234567/zzzzzzzz", "99999999", []string{"abcdefgh", "01234567", "zzzzzzzz", "99999999"}},
	} {
		wantSplit(t, c.p, c.names...)
		wantPathJoined(t, c.names, c.p)
		wantParent(t, c.p, c.parent, c.name)
		if got, ok := splitByBytes(c.p); !ok || !slices.Equal(got, c.names) || joinByBytes(c.names...) != c.p {
			t.Errorf("the test's own SplitPath(%q) is %q, %t", c.p, got, ok)
		}
	}
}

func TestTextsThatAreNoPaths(t *testing.T) {
	for what, p := range map[string]string{
		"nothing":                     "",
		"no slash":                    "a",
		"no slash ahead":              "a/b",
		"no slash ahead, one behind":  "a/",
		"a blank ahead":               " /a",
		"a byte of 0 ahead":           "\x00/a",
		"a slash behind":              "/a/",
		"a slash behind two":          "/a/b/",
		"a slash behind four":         "/a/b/c/d/",
		"two slashes behind":          "/a//",
		"two slashes ahead":           "//a",
		"two slashes":                 "/a//b",
		"two slashes alone":           "//",
		"three slashes alone":         "///",
		"four slashes alone":          "////",
		"five slashes alone":          "/////",
		"six slashes alone":           "//////",
		"five names":                  "/a/b/c/d/e",
		"five long names":             "/abcdefgh/abcdefgh/abcdefgh/abcdefgh/abcdefgh",
		"six names":                   "/a/b/c/d/e/f",
		"eight names":                 "/a/b/c/d/e/f/g/h",
		"five names without a slash":  "a/b/c/d/e",
		"a name of nine":              "/abcdefghi",
		"the last one of nine":        "/a/b/c/abcdefghi",
		"the first one of nine":       "/abcdefghi/b/c/d",
		"a backslash":                 "\\a",
		"one between":                 "/a\\b",
		"a slash of three bytes":      "/a\u2044b",
		"a wide slash":                "/a\uff0fb",
		"a rune that ends as a slash": "\u012fa",
		"one between names":           "/a\u012fb",
		"a longer form of a slash":    "\xc0\xafa",
		"half a rune ahead":           "\xc3/a",
		"half a rune behind":          "/a\xc3",
		"half a rune and a slash":     "/a/\xe2\x81/b",
		"the root with a blank":       "/ ",
		"the root with a 0":           "/\x00",
		"the root with a dot":         "/.",
		"the root of another":         "/..",
		"the root with half a rune":   "/\xff",
	} {
		if _, ok := splitByBytes(p); ok {
			t.Errorf("%s: the test's own SplitPath(%q) is true", what, p)
		}
		wantNoPath(t, what, p)
	}
}

// One name is none, at each place of a path of each depth.
func TestPathsWithANameThatIsNone(t *testing.T) {
	for what, none := range noNames() {
		// By itself, nothing behind a slash is the root.
		if none != "" {
			wantNoPath(t, what, "/"+none)
		}
		for depth := 2; depth <= 5; depth++ {
			for at := range depth {
				names := slices.Repeat([]string{"hall"}, depth)
				names[at] = none
				wantNoPath(t, what, joinByBytes(names...))
			}
		}
	}
}

func TestPathsByTheirBytes(t *testing.T) {
	for _, p := range []string{"/", "/a", "/ab/c", "/hall/door", "/a/b/c/d", "/a/b/c/d/e", "/abcdefgh/01234567"} {
		for at := range len(p) {
			for b := range 256 {
				text := []byte(p)
				text[at] = byte(b)
				wantPathAsByBytes(t, string(text))
				wantPathAsByBytes(t, p[:at]+string([]byte{byte(b)})+p[at:])
				wantPathAsByBytes(t, p+string([]byte{byte(b)}))
			}
			wantPathAsByBytes(t, p[:at])
			wantPathAsByBytes(t, p[at:])
		}
	}
}

func TestAllShortPaths(t *testing.T) {
	for _, p := range textsOf("/a", 13) {
		wantPathAsByBytes(t, p)
	}
	for _, p := range textsOf("/z0.", 7) {
		wantPathAsByBytes(t, p)
	}
	for _, p := range textsOf("/b\xc3\xa9", 7) {
		wantPathAsByBytes(t, p)
	}
}

func TestPathsByTheirDepths(t *testing.T) {
	d := draw(105)
	for depth := range 12 {
		for range 200 {
			names := d.pathNames(depth)
			p := joinByBytes(names...)
			wantPathJoined(t, names, p)
			if depth > 4 {
				wantNoPath(t, "too deep", p)
				continue
			}
			wantSplit(t, p, names...)
			wantPathAsByBytes(t, p)
		}
	}
}

func TestPathsComeBackFromTheirNames(t *testing.T) {
	d := draw(106)
	for i := range 5000 {
		names := d.pathNames(i % 5)
		p := impl.JoinPath(names)
		back, ok := impl.SplitPath(p)
		if !ok || !slices.Equal(back, names) {
			t.Errorf("SplitPath(%q) = %q, %t, want %q", p, back, ok, names)
		}
		if again := impl.JoinPath(back); again != p {
			t.Errorf("JoinPath(%q) = %q, want %q", back, again, p)
		}
	}
}

// Its parent with its name is the path, up to the root, which has none.
func TestParentsGoUpToTheRoot(t *testing.T) {
	d := draw(107)
	for i := range 5000 {
		names := d.pathNames(i % 5)
		p := impl.JoinPath(names)
		for at := len(names) - 1; at >= 0; at-- {
			parent, name, ok := impl.ParentPath(p)
			if !ok || name != names[at] {
				t.Fatalf("ParentPath(%q) = %q, %q, %t", p, parent, name, ok)
			}
			above, ok := impl.SplitPath(parent)
			if !ok || !slices.Equal(above, names[:at]) {
				t.Fatalf("ParentPath(%q) = %q, which has the names %q, %t", p, parent, above, ok)
			}
			wantPathJoined(t, slices.Concat(above, []string{name}), p)
			p = parent
		}
		if p != "/" {
			t.Errorf("above %q stands %q, not the root", names, p)
		}
		wantNoParent(t, "the root", p)
	}
}

func TestPathsOfDrawnBytes(t *testing.T) {
	d := draw(108)
	for i := range 20000 {
		p := []byte(joinByBytes(d.pathNames(i % 6)...))
		for range d.below(3) {
			at := d.below(len(p) + 1)
			switch d.below(4) {
			case 0:
				p = slices.Insert(p, at, '/')
			case 1:
				p = slices.Insert(p, at, byte(d.below(256)))
			case 2:
				p = slices.Delete(p, at, min(at+1, len(p)))
			case 3:
				p = p[:at]
			}
		}
		wantPathAsByBytes(t, string(p))
	}
}

func TestJoinPathOfNoNames(t *testing.T) {
	wantPathJoined(t, nil, "/")
	wantPathJoined(t, []string{}, "/")
	wantPathJoined(t, make([]string, 0, 4), "/")
	wantPathJoined(t, []string{"a", "b"}[:0], "/")
}

// The document has no answer of its own for these: they are joined as they are, and no path comes of it.
func TestJoinPathOfWrongNames(t *testing.T) {
	for what, none := range noNames() {
		for _, names := range [][]string{{none, "a"}, {"a", none}, {"a", none, "b"}, {none, none}} {
			p := impl.JoinPath(names)
			if p != joinByBytes(names...) {
				t.Errorf("%s: JoinPath(%.40q) = %.40q", what, names, p)
			}
			wantNoPath(t, what, p)
		}
	}
	wantPathJoined(t, []string{"a", "b", "c", "d", "e"}, "/a/b/c/d/e")
}

func TestPathsOfManyBytes(t *testing.T) {
	for _, n := range []int{256, 257, 1 << 16, 1<<16 + 1, 1 << 18} {
		for what, text := range map[string]string{
			"letters":    "/" + strings.Repeat("a", n),
			"slashes":    strings.Repeat("/", n),
			"names":      strings.Repeat("/a", n),
			"runes":      "/" + strings.Repeat("\u00e9", n),
			"no text":    "/" + strings.Repeat("\xff", n),
			"noughts":    "/" + strings.Repeat("\x00", n),
			"no path":    strings.Repeat("a", n),
			"a long end": "/a/b/c/" + strings.Repeat("d", n),
			"a long way": "/a" + strings.Repeat("/", n) + "b",
		} {
			wantNoPath(t, what, text)
			if impl.NameOk(text) || impl.NameOk(text[1:]) {
				t.Errorf("%s: %d bytes are a name", what, n)
			}
		}
		if got := impl.JoinPath(slices.Repeat([]string{"a"}, n)); got != strings.Repeat("/a", n) {
			t.Errorf("JoinPath of %d names has %d bytes", n, len(got))
		}
	}
}

func TestPathsWriteIntoNoArgument(t *testing.T) {
	for _, p := range []string{"/", "/hall", "/hall/door", "/a/b/c/d", "/a/b/c/d/e", "/hall/", "//", "hall", "hall/door", "/Hall", "/\xc3\xa9/b"} {
		room := []byte(p + "behind")
		seen := unsafe.String(&room[0], len(p))
		impl.NameOk(seen)
		impl.SplitPath(seen)
		impl.ParentPath(seen)
		if string(room) != p+"behind" {
			t.Errorf("a path, or what is behind it, is written into: %q, not %q", room, p+"behind")
		}
	}
	for count := range 7 {
		names := slices.Repeat([]string{"hall"}, count)
		list := spare(names, "behind")
		impl.JoinPath(list)
		if !slices.Equal(list, names) {
			t.Errorf("a list of names is written into: %q", list)
		}
		if behind := list[count : count+3]; !slices.Equal(behind, []string{"behind", "behind", "behind"}) {
			t.Errorf("what is behind %d names is written into: %q", count, behind)
		}
	}
}

func TestPathsAreNewMemory(t *testing.T) {
	for depth := 1; depth <= 4; depth++ {
		names := []string{ownText("hall"), ownText("door"), ownText("key"), ownText("lock2026")}[:depth]
		p := impl.JoinPath(names)
		wantNewTexts(t, "JoinPath", []string{p}, names)
		got, ok := impl.SplitPath(p)
		if !ok || len(got) != depth {
			t.Fatalf("SplitPath(%q) = %q, %t", p, got, ok)
		}
		wantNewTexts(t, "SplitPath", got, []string{p})
		parent, name, ok := impl.ParentPath(p)
		if !ok {
			t.Fatalf("ParentPath(%q) is false", p)
		}
		answer := []string{name, parent}
		if depth == 1 {
			// A path of one byte needs no memory of its own.
			answer = answer[:1]
		}
		wantNewTexts(t, "ParentPath", answer, []string{p})
		got = got[:cap(got)]
		for i := range got {
			got[i] = "another"
		}
		wantSplit(t, p, names...)
	}
	one := []string{ownText("hall")}
	wantNewTexts(t, "JoinPath of one name", []string{impl.JoinPath(one)}, one)
	whole := []string{ownText(""), ownText("/hall")}
	wantNewTexts(t, "JoinPath of a name of nothing", []string{impl.JoinPath(whole)}, whole)
}
