package tests

import (
	"fmt"
	"math"
	"slices"
	"strings"
	"testing"
	"unsafe"

	"loop.example/g00197/impl"
)

// draw gives the same numbers in each run, so that a failure can be looked at again.
type draw uint64

func (d *draw) below(n int) int {
	*d = *d*6364136223846793005 + 1442695040888963407
	return int((uint64(*d) >> 33) % uint64(n))
}

// allBytes has each byte once.
func allBytes() string {
	out := make([]byte, 256)
	for i := range out {
		out[i] = byte(i)
	}
	return string(out)
}

func TestLimitsOfWords(t *testing.T) {
	if impl.MaxText != 20000 || impl.MaxNumber != 1000000000 || impl.MaxWords != 600 || impl.MaxParts != 10 {
		t.Error("a limit is not the document's")
	}
}

func TestVarTextWrites(t *testing.T) {
	for _, c := range []struct {
		n    int
		text string
	}{
		{0, "\x00"},
		{1, "\x01"},
		{126, "\x7e"},
		{127, "\x7f"},
		{128, "\x80\x01"},
		{129, "\x81\x01"},
		{255, "\xff\x01"},
		{256, "\x80\x02"},
		{300, "\xac\x02"},
		{16383, "\xff\x7f"},
		{16384, "\x80\x80\x01"},
		{2097151, "\xff\xff\x7f"},
		{2097152, "\x80\x80\x80\x01"},
		{268435455, "\xff\xff\xff\x7f"},
		{268435456, "\x80\x80\x80\x80\x01"},
		{impl.MaxNumber - 1, "\xff\x93\xeb\xdc\x03"},
		{impl.MaxNumber, "\x80\x94\xeb\xdc\x03"},
	} {
		if s, ok := impl.VarText(c.n); s != c.text || !ok {
			t.Errorf("VarText(%d) = %q, %v", c.n, s, ok)
		}
		if n, at, ok := impl.ReadVar(c.text, 0); n != c.n || at != len(c.text) || !ok {
			t.Errorf("ReadVar(%q, 0) = %d, %d, %v", c.text, n, at, ok)
		}
	}
}

func TestVarTextRefuses(t *testing.T) {
	for _, n := range []int{-1, -128, math.MinInt, impl.MaxNumber + 1, 1 << 35, math.MaxInt} {
		if s, ok := impl.VarText(n); s != "" || ok {
			t.Errorf("VarText(%d) = %q, %v", n, s, ok)
		}
	}
}

func TestVarIsReadBack(t *testing.T) {
	d := draw(1)
	for i := range 60000 {
		n := i
		if i >= 40000 {
			n = d.below(impl.MaxNumber + 1)
		}
		s, ok := impl.VarText(n)
		ahead := strings.Repeat("\x81", i%4)
		m, at, right := impl.ReadVar(ahead+s+"\x05", len(ahead))
		if !ok || !right || m != n || at != len(ahead)+len(s) {
			t.Fatalf("%d: %q, %v; read: %d, %d, %v", n, s, ok, m, at, right)
		}
	}
}

func TestReadVarStandsAtItsPlace(t *testing.T) {
	text := "\x00\xac\x02\x7f"
	for at, want := range [][2]int{{0, 1}, {300, 3}, {2, 3}, {127, 4}} {
		if n, behind, ok := impl.ReadVar(text, at); n != want[0] || behind != want[1] || !ok {
			t.Errorf("ReadVar(%q, %d) = %d, %d, %v", text, at, n, behind, ok)
		}
	}
}

func TestReadVarRefuses(t *testing.T) {
	for _, c := range []struct {
		text string
		at   int
	}{
		{"", 0},
		{"", 1},
		{"", -1},
		{"\x05", 1},
		{"\x05", 2},
		{"\x05", -1},
		{"\x05", math.MinInt},
		{"\x05", math.MaxInt},
		{"\x80", 0},
		{"\x05\x80", 1},
		{"\xff\xff", 0},
		{"\xff\xff\xff\xff", 0},
		{"\xff\xff\xff\xff\xff", 0},
		{"\x80\x00", 0},
		{"\x81\x00", 0},
		{"\xff\x00", 0},
		{"\x05\x81\x00", 1},
		{"\xac\x82\x00", 0},
		{"\xac\x82\x80\x00", 0},
		{"\x80\x80\x80\x80\x00", 0},
		{"\x80\x94\xeb\xdc\x83\x00", 0},
		{"\x81\x80\x80\x80\x80\x00", 0},
		{"\x81\x94\xeb\xdc\x03", 0},
		{"\x80\x94\xeb\xdc\x04", 0},
		{"\xff\xff\xff\xff\x7f", 0},
		{"\x80\x80\x80\x80\x80\x01", 0},
		{"\x81\x80\x80\x80\x80\x80\x80\x80\x80\x80\x00", 0},
		{"\x81\x80\x80\x80\x80\x80\x80\x80\x80\x02", 0},
		{"\x81\x80\x80\x80\x80\x80\x80\x80\x80\x80\x02", 0},
		{strings.Repeat("\xff", 1000) + "\x01", 0},
		{strings.Repeat("\x80", 1000) + "\x00", 0},
	} {
		if n, at, ok := impl.ReadVar(c.text, c.at); n != 0 || at != 0 || ok {
			t.Errorf("ReadVar(%q, %d) = %d, %d, %v", c.text, c.at, n, at, ok)
		}
	}
}

// Every text of one and two bytes, and many longer ones: what is read is just what would be written.
func TestReadVarReadsNoOtherForm(t *testing.T) {
	check := func(text string) {
		n, at, ok := impl.ReadVar(text, 0)
		if !ok {
			if n != 0 || at != 0 {
				t.Fatalf("%q: %d, %d beside false", text, n, at)
			}
			return
		}
		if s, right := impl.VarText(n); !right || at > len(text) || s != text[:at] {
			t.Fatalf("%q: read as %d up to %d, written as %q", text, n, at, s)
		}
	}
	for i := range 256 {
		check(string([]byte{byte(i)}))
		for j := range 256 {
			check(string([]byte{byte(i), byte(j)}))
		}
	}
	d := draw(2)
	for range 60000 {
		b := make([]byte, 3+d.below(9))
		for i := range b {
			b[i] = byte(d.below(256))
			if d.below(4) > 0 { // most go on, so that long forms come up
				b[i] |= 128
			}
		}
		if d.below(2) == 0 {
			b[len(b)-1] = byte(d.below(5))
		}
		check(string(b))
	}
}

func TestShortTextWrites(t *testing.T) {
	for _, c := range []struct{ s, text string }{
		{"", "\x00"},
		{"a", "\x01a"},
		{"\x00", "\x01\x00"},
		{"ab c", "\x04ab c"},
		{strings.Repeat("x", 127), "\x7f" + strings.Repeat("x", 127)},
		{strings.Repeat("x", 128), "\x80\x01" + strings.Repeat("x", 128)},
		{allBytes(), "\x80\x02" + allBytes()},
		{strings.Repeat("y", impl.MaxText), "\xa0\x9c\x01" + strings.Repeat("y", impl.MaxText)},
	} {
		if text, ok := impl.ShortText(c.s); text != c.text || !ok {
			t.Errorf("ShortText of %d bytes: %d bytes, %v", len(c.s), len(text), ok)
		}
		for _, ahead := range []string{"", "\x80", "\x01z"} {
			for _, behind := range []string{"", "\x00", "zz"} {
				s, at, ok := impl.ReadShort(ahead+c.text+behind, len(ahead))
				if s != c.s || at != len(ahead)+len(c.text) || !ok {
					t.Errorf("ReadShort of %d bytes: %d bytes, %d, %v", len(c.s), len(s), at, ok)
				}
			}
		}
	}
}

func TestShortTextRefuses(t *testing.T) {
	for _, n := range []int{impl.MaxText + 1, 2 * impl.MaxText} {
		if s, ok := impl.ShortText(strings.Repeat("y", n)); s != "" || ok {
			t.Errorf("ShortText of %d bytes: %d bytes, %v", n, len(s), ok)
		}
	}
}

func TestReadShortRefuses(t *testing.T) {
	for _, c := range []struct {
		text string
		at   int
	}{
		{"", 0},
		{"", -1},
		{"", 1},
		{"\x01a", 2},
		{"\x01a", 3},
		{"\x01a", -1},
		{"\x01a", math.MinInt},
		{"\x01a", math.MaxInt},
		{"\x01", 0},
		{"\x02a", 0},
		{"\x05\x02a", 1},
		{"\x7f" + strings.Repeat("x", 126), 0},
		{"\x80\x01" + strings.Repeat("x", 127), 0},
		{"\x80", 0},
		{"\x80\x00", 0},
		{"\x81\x00a", 0},
		{"\x80\x94\xeb\xdc\x03", 0},
		{"\x80\x80\x80\x80\x80\x80\x80\x80\x80\x01", 0},
		{"\xa0\x9c\x01" + strings.Repeat("y", impl.MaxText-1), 0},
		{"\xa1\x9c\x01" + strings.Repeat("y", impl.MaxText+1), 0},
		{"\xa1\x9c\x01" + strings.Repeat("y", 2*impl.MaxText), 0},
	} {
		if s, at, ok := impl.ReadShort(c.text, c.at); s != "" || at != 0 || ok {
			t.Errorf("ReadShort(%d bytes, %d) = %d bytes, %d, %v", len(c.text), c.at, len(s), at, ok)
		}
	}
}

func TestShortTextsOneBehindTheOther(t *testing.T) {
	list := []string{"", "one", strings.Repeat("2", 200), "\x80\x00", ""}
	text := ""
	for _, s := range list {
		one, _ := impl.ShortText(s)
		text += one
	}
	at := 0
	for i, s := range list {
		got, behind, ok := impl.ReadShort(text, at)
		if got != s || !ok {
			t.Fatalf("text %d: %q, %v", i, got, ok)
		}
		at = behind
	}
	if at != len(text) {
		t.Errorf("ends at %d of %d", at, len(text))
	}
}

func TestHexWrites(t *testing.T) {
	for _, c := range []struct{ text, hex string }{
		{"", ""},
		{"\x00", "00"},
		{"\x0f", "0f"},
		{"\xf0", "f0"},
		{"\x9a\xbc", "9abc"},
		{"\xde\xef\x00", "deef00"},
		{"Hall", "48616c6c"},
		{allBytes(), fmt.Sprintf("%x", allBytes())},
		{strings.Repeat("\xa5", impl.MaxText), strings.Repeat("a5", impl.MaxText)},
	} {
		if s, ok := impl.Hex(c.text); s != c.hex || !ok {
			t.Errorf("Hex of %d bytes: %d bytes, %v", len(c.text), len(s), ok)
		}
		if s, ok := impl.Unhex(c.hex); s != c.text || !ok {
			t.Errorf("Unhex of %d bytes: %d bytes, %v", len(c.hex), len(s), ok)
		}
	}
}

func TestHexRefuses(t *testing.T) {
	if s, ok := impl.Hex(strings.Repeat("a", impl.MaxText+1)); s != "" || ok {
		t.Errorf("Hex of one byte too many: %d bytes, %v", len(s), ok)
	}
	for _, s := range []string{
		"0", "000", "0g", "g0", "0A", "A0", "aF", "Fa", "0x", " 00", "00 ", "0 ", "-1", "/0", "0/", ":0", "0:", "`0", "0`", "00\n", "00zz", "\xff0", "\x000",
		strings.Repeat("0", 2*impl.MaxText+1),
		strings.Repeat("0", 2*impl.MaxText+2),
	} {
		if got, ok := impl.Unhex(s); got != "" || ok {
			t.Errorf("Unhex of %d bytes (%.10q): %q, %v", len(s), s, got, ok)
		}
	}
}

// Of all pairs of bytes just those that Hex writes are read.
func TestUnhexReadsNoOtherForm(t *testing.T) {
	read := 0
	for i := range 256 {
		for j := range 256 {
			text := string([]byte{byte(i), byte(j)})
			s, ok := impl.Unhex(text)
			if !ok {
				continue
			}
			read++
			if back, right := impl.Hex(s); len(s) != 1 || back != text || !right {
				t.Fatalf("Unhex(%q) = %q, Hex of it %q", text, s, back)
			}
		}
	}
	if read != 256 {
		t.Errorf("%d pairs are read", read)
	}
}

func TestDecimalWrites(t *testing.T) {
	for _, c := range []struct {
		n    int
		text string
	}{
		{0, "0"},
		{1, "1"},
		{9, "9"},
		{10, "10"},
		{-1, "-1"},
		{-5, "-5"},
		{-10, "-10"},
		{100, "100"},
		{20000, "20000"},
		{impl.MaxNumber, "1000000000"},
		{impl.MaxNumber + 1, "1000000001"},
		{-impl.MaxNumber, "-1000000000"},
		{math.MaxInt32, "2147483647"},
		{math.MinInt32, "-2147483648"},
		{math.MaxInt, "9223372036854775807"},
		{math.MaxInt - 1, "9223372036854775806"},
		{math.MinInt, "-9223372036854775808"},
		{math.MinInt + 1, "-9223372036854775807"},
	} {
		if s := impl.Decimal(c.n); s != c.text {
			t.Errorf("Decimal(%d) = %q", c.n, s)
		}
	}
}

func TestDecimalIsReadBack(t *testing.T) {
	d := draw(3)
	for i := range 30000 {
		n := i
		if i >= 20000 {
			n = impl.MaxNumber - d.below(impl.MaxNumber+1)
		}
		if i == 29999 {
			n = impl.MaxNumber
		}
		if m, ok := impl.ReadDecimal(impl.Decimal(n)); m != n || !ok {
			t.Fatalf("%d: read %d, %v", n, m, ok)
		}
	}
}

func TestReadDecimalRefuses(t *testing.T) {
	for _, s := range []string{
		"", " ", "-", "+", "-0", "-1", "+1", "+0", "00", "01", "000", "007", "0000000001", "01000000000",
		" 1", "1 ", "1\n", "1_000", "1.0", "1e3", "0x1", "a", "1a", "a1", "/", ":", "1/", "1:", "\x00", "1\x00", "\xb1", "\u0661",
		"1000000001", "1000000010", "9999999999", "10000000000",
		"9223372036854775807", "9223372036854775808", "18446744073709551616", "18446744073709551617",
		"-9223372036854775808",
		strings.Repeat("0", 30), strings.Repeat("9", 1000), "1" + strings.Repeat("0", 70),
	} {
		if n, ok := impl.ReadDecimal(s); n != 0 || ok {
			t.Errorf("ReadDecimal(%q) = %d, %v", s, n, ok)
		}
	}
}

// Of all texts of one and two bytes just those that Decimal writes are read.
func TestReadDecimalReadsNoOtherForm(t *testing.T) {
	read := 0
	check := func(text string) {
		n, ok := impl.ReadDecimal(text)
		if !ok {
			if n != 0 {
				t.Fatalf("%q: %d beside false", text, n)
			}
			return
		}
		read++
		if impl.Decimal(n) != text {
			t.Fatalf("%q is read as %d", text, n)
		}
	}
	for i := range 256 {
		check(string([]byte{byte(i)}))
		for j := range 256 {
			check(string([]byte{byte(i), byte(j)}))
		}
	}
	if read != 100 {
		t.Errorf("%d texts are read", read)
	}
}

func TestPartsOf(t *testing.T) {
	ten := strings.Fields("a b c d e f g h i j")
	long := strings.Repeat("x", impl.MaxWords)
	for _, c := range []struct {
		line  string
		parts []string
	}{
		{"", nil},
		{" ", nil},
		{"   ", nil},
		{strings.Repeat(" ", impl.MaxWords), nil},
		{"a", []string{"a"}},
		{" tick  1 2 ", []string{"tick", "1", "2"}},
		{"append 1 /a/b text", []string{"append", "1", "/a/b", "text"}},
		{"  a", []string{"a"}},
		{"a  ", []string{"a"}},
		{"#note ~ !", []string{"#note", "~", "!"}},
		{strings.Join(ten, " "), ten},
		{"  " + strings.Join(ten, "   ") + "  ", ten},
		{long, []string{long}},
		{long[1:] + " ", []string{long[1:]}},
		{" " + long[1:], []string{long[1:]}},
		{"a" + strings.Repeat(" ", impl.MaxWords-2) + "b", []string{"a", "b"}},
	} {
		if p, ok := impl.PartsOf(c.line); !slices.Equal(p, c.parts) || !ok {
			t.Errorf("PartsOf(%.20q) = %q, %v", c.line, p, ok)
		}
	}
}

func TestPartsOfRefuses(t *testing.T) {
	for _, line := range []string{
		"\n", "\t", "a\tb", "a\nb", "a b\n", "\x00", "\x1f", "\x7f", "a\x7f", "\x80", "\xa0", "\xff", "a b \xff", "\u00e9", "a\u00a0b", "a\u3000b",
		"a b c d e f g h i j k",
		" a b c d e f g h i j  k ",
		strings.Repeat("a ", 300),
		strings.Repeat("x", impl.MaxWords+1),
		strings.Repeat(" ", impl.MaxWords+1),
		strings.Repeat("x", impl.MaxWords) + " ",
		" " + strings.Repeat("x", impl.MaxWords),
	} {
		if p, ok := impl.PartsOf(line); len(p) != 0 || ok {
			t.Errorf("PartsOf(%.20q) = %q, %v", line, p, ok)
		}
	}
}

func TestPartsOfEachByte(t *testing.T) {
	for b := range 256 {
		line := "a" + string([]byte{byte(b)}) + "b"
		var want []string
		switch {
		case b == 32:
			want = []string{"a", "b"}
		case b > 32 && b < 127:
			want = []string{line}
		}
		if p, ok := impl.PartsOf(line); !slices.Equal(p, want) || ok != (want != nil) {
			t.Errorf("PartsOf(%q) = %q, %v", line, p, ok)
		}
	}
}

// within tells whether a part lies in the memory of a whole.
func within(part, whole string) bool {
	p, w := uintptr(unsafe.Pointer(unsafe.StringData(part))), uintptr(unsafe.Pointer(unsafe.StringData(whole)))
	return p >= w && p < w+uintptr(len(whole))
}

func TestWordsAreNewMemory(t *testing.T) {
	text := string([]byte("\x04four rest"))
	if s, _, _ := impl.ReadShort(text, 0); within(s, text) {
		t.Error("ReadShort answers a piece of its argument")
	}
	parts, _ := impl.PartsOf(text[1:])
	for i, p := range parts {
		if within(p, text) {
			t.Errorf("part %d is a piece of the line", i)
		}
	}
}
