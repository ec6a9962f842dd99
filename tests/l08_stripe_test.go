package tests

import (
	"fmt"
	"math"
	"runtime"
	"slices"
	"strings"
	"sync"
	"testing"
	"time"
	"unsafe"

	"loop.example/g00197/impl"
)

const lastOffset = 100000

type place struct{ group, unit, at int }

// walked has the places of the bytes 0 to n-1 in the document's own words: cells go round the units,
// stripe by stripe, and group by group.
func (c schema) walked(n int) []place {
	var out []place
	for group := 0; len(out) < n; group++ {
		for stripe := range 2 {
			for unit := range c.units {
				for b := range 4 {
					out = append(out, place{group, unit, stripe*4 + b})
				}
			}
		}
	}
	return out[:n]
}

func (c schema) size() int {
	return c.units * 8
}

// cut is CutUnits byte by byte.
func (c schema) cut(text string) []string {
	units := make([]string, c.units)
	for i, p := range c.walked(len(text)) {
		units[p.unit] += text[i : i+1]
	}
	return units
}

// joined is JoinUnits byte by byte.
func (c schema) joined(units []string, n int) string {
	var out []byte
	for _, p := range c.walked(n) {
		b := byte(0)
		if p.at < len(units[p.unit]) {
			b = units[p.unit][p.at]
		}
		out = append(out, b)
	}
	return string(out)
}

// outOfRange has numbers that lie outside 0 to below n, some of which wrap round into it when they
// are multiplied by a group's size, or when they are taken as fewer bits.
func outOfRange(n int) []int {
	list := []int{-1, -2, -4, -8, -16, n, n + 1, n + 4, n + 1<<32, n + 1<<31, math.MaxInt, math.MaxInt - 1, math.MinInt, math.MinInt + 1, math.MinInt32}
	for bit := 31; bit < 63; bit++ {
		list = append(list, 1<<bit, 1<<bit+1, -1<<bit, -1<<bit+1, -1<<bit-1, 3<<(bit-1))
	}
	return slices.Concat(list, slices.DeleteFunc(farNumbers(), func(far int) bool { return far >= 0 && far < n }))
}

func wantPlace(t *testing.T, s, offset int, want place) {
	t.Helper()
	if group, unit, at := impl.PlaceOf(s, offset); (place{group, unit, at}) != want {
		t.Errorf("PlaceOf(%d, %d) = %d, %d, %d, want %v", s, offset, group, unit, at, want)
	}
}

func wantOffset(t *testing.T, s int, p place, want int) {
	t.Helper()
	if got := impl.OffsetOf(s, p.group, p.unit, p.at); got != want {
		t.Errorf("OffsetOf(%d, %d, %d, %d) = %d, want %d", s, p.group, p.unit, p.at, got, want)
	}
}

func wantCut(t *testing.T, c schema, text string, want []string) {
	t.Helper()
	if got, ok := impl.CutUnits(c.s, text); !ok || !slices.Equal(got, want) {
		t.Errorf("CutUnits(%d, %q) = %q, %t, want %q", c.s, text, got, ok, want)
	}
}

func wantNotCut(t *testing.T, s int, text string) {
	t.Helper()
	if got, ok := impl.CutUnits(s, text); ok || len(got) != 0 {
		t.Errorf("CutUnits of schema %d and %d bytes = %q, %t", s, len(text), got, ok)
	}
}

func wantJoined(t *testing.T, c schema, units []string, n int, want string) {
	t.Helper()
	if got, ok := impl.JoinUnits(c.s, units, n); !ok || got != want {
		t.Errorf("JoinUnits(%d, %q, %d) = %q, %t, want %q", c.s, units, n, got, ok, want)
	}
}

func wantNotJoined(t *testing.T, what string, s int, units []string, n int) {
	t.Helper()
	if got, ok := impl.JoinUnits(s, units, n); ok || got != "" {
		t.Errorf("%s: JoinUnits(%d, %q, %d) = %q, %t", what, s, units, n, got, ok)
	}
}

func TestGroupSizes(t *testing.T) {
	if impl.Cell != 4 || impl.Stripes != 2 {
		t.Errorf("a cell is %d bytes, and a group %d stripes", impl.Cell, impl.Stripes)
	}
	for s, want := range map[int]int{impl.SchemaSmall: 16, impl.SchemaMiddle: 24, impl.SchemaWide: 32} {
		if got := impl.GroupSize(s); got != want {
			t.Errorf("GroupSize(%d) = %d, want %d", s, got, want)
		}
	}
	for _, s := range wrongSchemas() {
		if got := impl.GroupSize(s); got != 0 {
			t.Errorf("GroupSize(%d) = %d, want 0", s, got)
		}
	}
}

func TestPlacesThatAreWrittenOut(t *testing.T) {
	for s, units := range map[int][][]int{
		impl.SchemaSmall: {
			{0, 1, 2, 3, 8, 9, 10, 11},
			{4, 5, 6, 7, 12, 13, 14, 15},
		},
		impl.SchemaMiddle: {
			{0, 1, 2, 3, 12, 13, 14, 15},
			{4, 5, 6, 7, 16, 17, 18, 19},
			{8, 9, 10, 11, 20, 21, 22, 23},
		},
		impl.SchemaWide: {
			{0, 1, 2, 3, 16, 17, 18, 19},
			{4, 5, 6, 7, 20, 21, 22, 23},
			{8, 9, 10, 11, 24, 25, 26, 27},
			{12, 13, 14, 15, 28, 29, 30, 31},
		},
	} {
		size := len(units) * 8
		for group := range 4 {
			for unit, bytes := range units {
				for at, b := range bytes {
					wantPlace(t, s, group*size+b, place{group, unit, at})
					wantOffset(t, s, place{group, unit, at}, group*size+b)
				}
			}
		}
	}
}

func TestEachByteHasAPlace(t *testing.T) {
	for _, c := range schemas() {
		for offset, p := range c.walked(lastOffset + 1) {
			wantPlace(t, c.s, offset, p)
			wantOffset(t, c.s, p, offset)
			if t.Failed() {
				t.FailNow()
			}
		}
	}
}

// Behind the last byte there are places of which there is none, also in its own group.
func TestEachPlaceHasItsByte(t *testing.T) {
	for _, c := range schemas() {
		offsets := map[place]int{}
		for offset, p := range c.walked(lastOffset + 1) {
			offsets[p] = offset
		}
		for group := -1; group <= lastOffset/c.size()+2; group++ {
			for unit := -1; unit <= c.units+1; unit++ {
				for at := -1; at <= 9; at++ {
					p := place{group, unit, at}
					want, ok := offsets[p]
					if !ok {
						want = -1
					}
					wantOffset(t, c.s, p, want)
				}
			}
			if t.Failed() {
				t.FailNow()
			}
		}
	}
}

func TestPlacesAtTheLimit(t *testing.T) {
	for s, last := range map[int]map[int]place{
		impl.SchemaSmall:  {99999: {6249, 1, 7}, 100000: {6250, 0, 0}},
		impl.SchemaMiddle: {99983: {4165, 2, 7}, 99984: {4166, 0, 0}, 99995: {4166, 2, 3}, 99996: {4166, 0, 4}, 99999: {4166, 0, 7}, 100000: {4166, 1, 4}},
		impl.SchemaWide:   {99999: {3124, 3, 7}, 100000: {3125, 0, 0}},
	} {
		for offset, p := range last {
			wantPlace(t, s, offset, p)
			wantOffset(t, s, p, offset)
		}
		for _, offset := range []int{100001, 100002, 100003, 100004, 100016, 100024, 100032, 200000, 131072 + 5, 65536 * 2} {
			wantPlace(t, s, offset, place{})
		}
	}
	for s, none := range map[int][]place{
		impl.SchemaSmall:  {{6250, 0, 1}, {6250, 0, 3}, {6250, 0, 4}, {6250, 0, 7}, {6250, 1, 0}, {6250, 1, 7}, {6251, 0, 0}, {6252, 1, 1}},
		impl.SchemaMiddle: {{4166, 1, 5}, {4166, 1, 7}, {4166, 2, 4}, {4166, 2, 7}, {4167, 0, 0}, {4167, 2, 7}},
		impl.SchemaWide:   {{3125, 0, 1}, {3125, 0, 4}, {3125, 1, 0}, {3125, 3, 7}, {3126, 0, 0}, {100000, 0, 0}, {100001, 0, 0}},
	} {
		for _, p := range none {
			wantOffset(t, s, p, -1)
		}
	}
}

func TestOffsetsAndPlacesThatAreNone(t *testing.T) {
	for _, c := range schemas() {
		for _, offset := range outOfRange(lastOffset + 1) {
			wantPlace(t, c.s, offset, place{})
		}
		for unit := range c.units {
			for _, at := range []int{0, 3, 4, 7} {
				for _, group := range outOfRange(lastOffset/c.size() + 1) {
					wantOffset(t, c.s, place{group, unit, at}, -1)
				}
			}
		}
		for _, group := range []int{0, 1, 2, 3000} {
			for _, at := range []int{0, 3, 4, 7} {
				for _, unit := range outOfRange(c.units) {
					wantOffset(t, c.s, place{group, unit, at}, -1)
				}
			}
			for unit := range c.units {
				for _, at := range outOfRange(8) {
					wantOffset(t, c.s, place{group, unit, at}, -1)
				}
			}
		}
		far := []int{math.MinInt, math.MaxInt, -1}
		for _, group := range far {
			for _, unit := range far {
				for _, at := range far {
					wantOffset(t, c.s, place{group, unit, at}, -1)
				}
			}
		}
	}
}

func TestStripesOfSchemasThatAreNone(t *testing.T) {
	for _, s := range wrongSchemas() {
		for _, n := range slices.Concat([]int{0, 1, 4, 7, 8, 15, 16, 17, 100, 1000, 99999, 100000}, farNumbers()) {
			wantPlace(t, s, n, place{})
			wantOffset(t, s, place{n, 0, 0}, -1)
			wantOffset(t, s, place{0, n, 0}, -1)
			wantOffset(t, s, place{0, 0, n}, -1)
			wantNotJoined(t, "a schema that is none", s, nil, n)
			wantNotJoined(t, "a schema that is none", s, []string{"unit", "unit"}, n)
			if got := impl.Spans(s, n); len(got) != 0 {
				t.Errorf("Spans(%d, %d) = %v", s, n, got)
			}
		}
		for count := range 9 {
			wantNotJoined(t, "a schema that is none", s, make([]string, count), 0)
			wantNotCut(t, s, strings.Repeat("t", count))
		}
		wantNotCut(t, s, strings.Repeat("t", 16))
		wantNotCut(t, s, strings.Repeat("t", 33))
	}
}

func TestCutUnitsThatAreWrittenOut(t *testing.T) {
	for _, c := range []struct {
		s    int
		text string
		want []string
	}{
		{1, "", []string{"", ""}},
		{1, "0", []string{"0", ""}},
		{1, "0123", []string{"0123", ""}},
		{1, "01234", []string{"0123", "4"}},
		{1, "01234567", []string{"0123", "4567"}},
		{1, "012345678", []string{"01238", "4567"}},
		{1, "0123456789ab", []string{"012389ab", "4567"}},
		{1, "0123456789abc", []string{"012389ab", "4567c"}},
		{1, "0123456789abcdef", []string{"012389ab", "4567cdef"}},
		{1, "\x00\x00\x00\x00\x00", []string{"\x00\x00\x00\x00", "\x00"}},
		{2, "", []string{"", "", ""}},
		{2, "0123456789", []string{"0123", "4567", "89"}},
		{2, "0123456789abcdefg", []string{"0123cdef", "4567g", "89ab"}},
		{2, "0123456789abcdefghijklmn", []string{"0123cdef", "4567ghij", "89abklmn"}},
		{3, "", []string{"", "", "", ""}},
		{3, "0123456", []string{"0123", "456", "", ""}},
		{3, "0123456789abcdefghi", []string{"0123ghi", "4567", "89ab", "cdef"}},
		{3, "0123456789abcdefghijklmnopqrstuv", []string{"0123ghij", "4567klmn", "89abopqr", "cdefstuv"}},
	} {
		of := schemas()[c.s-1]
		wantCut(t, of, c.text, c.want)
		wantJoined(t, of, c.want, len(c.text), c.text)
		if got := of.cut(c.text); !slices.Equal(got, c.want) {
			t.Errorf("the test's own CutUnits(%d, %q) is %q", c.s, c.text, got)
		}
	}
}

func TestWhatIsCutIsJoined(t *testing.T) {
	d := draw(96)
	for _, c := range schemas() {
		for n := range c.size() + 1 {
			for _, text := range []string{d.text(n), d.text(n), strings.Repeat("\x00", n), strings.Repeat("\xff", n), allBytes()[256-n:]} {
				wantCut(t, c, text, c.cut(text))
				units, ok := impl.CutUnits(c.s, text)
				if !ok || len(units) != c.units {
					t.Fatalf("CutUnits(%d, %q) = %q, %t", c.s, text, units, ok)
				}
				if len(strings.Join(units, "")) != n {
					t.Errorf("CutUnits(%d, %q) = %q: not of %d bytes in all", c.s, text, units, n)
				}
				wantJoined(t, c, units, n, text)
			}
		}
	}
}

func TestEachByteIsCutToItsPlace(t *testing.T) {
	d := draw(97)
	for _, c := range schemas() {
		for n := range c.size() + 1 {
			text := d.text(n)
			units, ok := impl.CutUnits(c.s, text)
			for offset := range n {
				_, unit, at := impl.PlaceOf(c.s, offset)
				if !ok || unit >= len(units) || at >= len(units[unit]) || units[unit][at] != text[offset] {
					t.Errorf("CutUnits(%d, %q) = %q: byte %d is not at %d of unit %d", c.s, text, units, offset, at, unit)
				}
			}
		}
	}
}

func TestTextsThatAreLongerThanAGroup(t *testing.T) {
	for _, c := range schemas() {
		full := strings.Repeat("0123456789abcdef", 2)[:c.size()]
		wantCut(t, c, full, c.cut(full))
		for _, more := range []int{1, 2, 4, 8, c.size(), 256, 1 << 16, impl.MaxText} {
			wantNotCut(t, c.s, full+strings.Repeat("\x00", more))
		}
	}
}

func TestJoinUnitsThatAreWrittenOut(t *testing.T) {
	for _, c := range []struct {
		s     int
		units []string
		n     int
		want  string
	}{
		{1, []string{"", ""}, 0, ""},
		{1, []string{"hall", "door"}, 0, ""},
		{1, []string{"hall", "door"}, 1, "h"},
		{1, []string{"hall", "door"}, 6, "halldo"},
		{1, []string{"hall", "door"}, 8, "halldoor"},
		{1, []string{"hall", "door"}, 9, "halldoor\x00"},
		{1, []string{"hall", "door"}, 16, "halldoor\x00\x00\x00\x00\x00\x00\x00\x00"},
		{1, []string{"", "door"}, 7, "\x00\x00\x00\x00doo"},
		{1, []string{"ha", "door"}, 8, "ha\x00\x00door"},
		{1, []string{"hallway", "door"}, 16, "halldoorway\x00\x00\x00\x00\x00"},
		{1, []string{"hallways and more", "doorways and more"}, 16, "halldoorwaysways"},
		{1, []string{"", ""}, 16, strings.Repeat("\x00", 16)},
		{2, []string{"one", "seventh", "three"}, 24, "one\x00sevethre\x00\x00\x00\x00nth\x00e\x00\x00\x00"},
		{2, []string{"", "", "at the end"}, 12, "\x00\x00\x00\x00\x00\x00\x00\x00at t"},
		{3, []string{"ab", "cd", "ef", "gh"}, 15, "ab\x00\x00cd\x00\x00ef\x00\x00gh\x00"},
		{3, []string{"abcdABCD", "efghEFGH", "ijklIJKL", "mnopMNOP"}, 32, "abcdefghijklmnopABCDEFGHIJKLMNOP"},
		{3, []string{"abcdABCD.", "efghEFGH.", "ijklIJKL.", "mnopMNOP."}, 31, "abcdefghijklmnopABCDEFGHIJKLMNO"},
	} {
		of := schemas()[c.s-1]
		wantJoined(t, of, c.units, c.n, c.want)
		if got := of.joined(c.units, c.n); got != c.want {
			t.Errorf("the test's own JoinUnits(%d, %q, %d) is %q", c.s, c.units, c.n, got)
		}
	}
}

func TestUnitsThatAreShorterOrLonger(t *testing.T) {
	d := draw(98)
	for _, c := range schemas() {
		for i := range 200 {
			var units []string
			for range c.units {
				units = append(units, d.text(d.below([]int{5, 10, 300}[i%3])))
			}
			for n := range c.size() + 1 {
				wantJoined(t, c, units, n, c.joined(units, n))
			}
		}
	}
}

// Each unit but one has all its bytes, and this one has a byte fewer, then another.
func TestBytesThatAUnitHasNot(t *testing.T) {
	for _, c := range schemas() {
		whole := c.cut(strings.Repeat("u", c.size()))
		for i := range whole {
			for length := range 8 {
				units := slices.Clone(whole)
				units[i] = units[i][:length]
				got, ok := impl.JoinUnits(c.s, units, c.size())
				if !ok || len(got) != c.size() || strings.Count(got, "\x00") != 8-length {
					t.Errorf("JoinUnits(%d, %q, %d) = %q, %t", c.s, units, c.size(), got, ok)
				}
				wantJoined(t, c, units, c.size(), c.joined(units, c.size()))
			}
		}
	}
}

func TestJoinUnitsOfWrongNumbers(t *testing.T) {
	for _, c := range schemas() {
		units := c.cut(strings.Repeat("u", c.size()))
		wantJoined(t, c, units, c.size(), strings.Repeat("u", c.size()))
		for _, n := range outOfRange(c.size() + 1) {
			wantNotJoined(t, "a wrong n", c.s, units, n)
			wantNotJoined(t, "a wrong n, units of nothing", c.s, make([]string, c.units), n)
		}
		for count := range 12 {
			for n := range c.size() + 1 {
				if count != c.units {
					wantNotJoined(t, "another number of units", c.s, slices.Repeat([]string{"unit"}, count), n)
					wantNotJoined(t, "another number of units, of nothing", c.s, make([]string, count), n)
				}
			}
		}
		wantNotJoined(t, "no units", c.s, nil, 0)
		wantNotJoined(t, "no units", c.s, nil, c.size())
		wantNotJoined(t, "many units", c.s, make([]string, c.units+256), 0)
	}
}

// What the chapters are for: a group is cut, has its sums, loses as many units as there are sums, and
// is whole again.
func TestGroupsThatLoseUnitsAreJoined(t *testing.T) {
	d := draw(99)
	for _, c := range schemas() {
		for n := range c.size() + 1 {
			text := d.text(n)
			units, _ := impl.CutUnits(c.s, text)
			list, ok := impl.Encode(c.s, units)
			if !ok {
				t.Fatalf("schema %d: Encode(%q) is false", c.s, units)
			}
			for _, have := range c.enough() {
				back, _ := impl.Decode(c.s, lost(list, have, func(int) string { return "" }), have)
				wantJoined(t, c, back, n, text)
			}
		}
	}
}

func TestSpansThatAreWrittenOut(t *testing.T) {
	for _, c := range []struct {
		s, n int
		want []int
	}{
		{1, 0, nil}, {1, 1, []int{1}}, {1, 15, []int{15}}, {1, 16, []int{16}}, {1, 17, []int{16, 1}}, {1, 20, []int{16, 4}},
		{1, 31, []int{16, 15}}, {1, 32, []int{16, 16}}, {1, 33, []int{16, 16, 1}},
		{2, 0, nil}, {2, 1, []int{1}}, {2, 23, []int{23}}, {2, 24, []int{24}}, {2, 25, []int{24, 1}}, {2, 71, []int{24, 24, 23}}, {2, 72, []int{24, 24, 24}},
		{3, 0, nil}, {3, 1, []int{1}}, {3, 31, []int{31}}, {3, 32, []int{32}}, {3, 33, []int{32, 1}}, {3, 100, []int{32, 32, 32, 4}},
		{1, 1000, append(slices.Repeat([]int{16}, 62), 8)},
		{2, 1000, append(slices.Repeat([]int{24}, 41), 16)},
		{3, 1000, append(slices.Repeat([]int{32}, 31), 8)},
		{1, 992, slices.Repeat([]int{16}, 62)},
		{2, 984, slices.Repeat([]int{24}, 41)},
		{3, 992, slices.Repeat([]int{32}, 31)},
		{3, 993, append(slices.Repeat([]int{32}, 31), 1)},
		{1, 1001, nil}, {2, 1001, nil}, {3, 1001, nil}, {1, 1002, nil}, {2, 1008, nil}, {3, 1024, nil},
	} {
		if got := impl.Spans(c.s, c.n); !slices.Equal(got, c.want) {
			t.Errorf("Spans(%d, %d) = %v, want %v", c.s, c.n, got, c.want)
		}
	}
}

func TestSpansByTheirBytes(t *testing.T) {
	for _, c := range schemas() {
		for n := range 1001 {
			var want []int
			for _, p := range c.walked(n) {
				if p.group == len(want) {
					want = append(want, 0)
				}
				want[p.group]++
			}
			if got := impl.Spans(c.s, n); !slices.Equal(got, want) {
				t.Errorf("Spans(%d, %d) = %v, want %v", c.s, n, got, want)
			}
		}
	}
}

func TestSpansOfWrongLengths(t *testing.T) {
	for _, c := range schemas() {
		for _, n := range slices.Concat(outOfRange(1001), []int{10000, 100000, 1 << 16, 1 << 20}) {
			if n > 1<<20 && t.Failed() {
				t.FailNow()
			}
			if got := impl.Spans(c.s, n); len(got) != 0 {
				t.Errorf("Spans(%d, %d) has %d groups", c.s, n, len(got))
			}
		}
	}
}

// A file goes through all of the chapter: by its spans, each group cut and joined.
func TestFilesOfGroupsComeBack(t *testing.T) {
	d := draw(100)
	for _, c := range schemas() {
		for range 60 {
			text := d.text(d.below(1001))
			back, rest := "", text
			for group, span := range impl.Spans(c.s, len(text)) {
				if span < 1 || span > len(rest) {
					t.Fatalf("Spans(%d, %d) has a group of %d", c.s, len(text), span)
				}
				if first, unit, at := impl.PlaceOf(c.s, len(text)-len(rest)); first != group || unit != 0 || at != 0 {
					t.Errorf("schema %d: group %d does not begin at %d", c.s, group, len(text)-len(rest))
				}
				units, _ := impl.CutUnits(c.s, rest[:span])
				piece, ok := impl.JoinUnits(c.s, units, span)
				if !ok {
					t.Fatalf("JoinUnits(%d, %q, %d) is false", c.s, units, span)
				}
				back, rest = back+piece, rest[span:]
			}
			if back != text {
				t.Errorf("schema %d: %q comes back as %q", c.s, text, back)
			}
		}
	}
}

func TestStripesWriteIntoNoArgument(t *testing.T) {
	d := draw(101)
	for _, c := range schemas() {
		for n := range c.size() + 1 {
			text := d.text(n)
			room := []byte(text + "behind")
			units, _ := impl.CutUnits(c.s, unsafe.String(&room[0], n))
			if string(room) != text+"behind" {
				t.Errorf("a text, or what is behind it, is written into: %q, not %q", room, text+"behind")
			}
			rooms := make([][]byte, c.units)
			var seen []string
			for i, unit := range c.cut(text) {
				rooms[i] = []byte(unit + "behind")
				seen = append(seen, unsafe.String(&rooms[i][0], len(unit)))
			}
			list := spare(seen, "behind")
			for m := range c.size() + 1 {
				impl.JoinUnits(c.s, list, m)
			}
			for i, unit := range c.cut(text) {
				if string(rooms[i]) != unit+"behind" || list[i] != unit {
					t.Errorf("unit %d, or what is behind it, is written into: %q, not %q", i, rooms[i], unit+"behind")
				}
			}
			if behind := list[len(list) : len(list)+3]; !slices.Equal(behind, []string{"behind", "behind", "behind"}) {
				t.Errorf("what is behind the units is written into: %q", behind)
			}
			units = units[:cap(units)]
			for i := range units {
				units[i] = "another"
			}
			wantCut(t, c, text, c.cut(text))
		}
	}
}

func TestStripesAreNewMemory(t *testing.T) {
	d := draw(102)
	for _, c := range schemas() {
		for n := 2; n <= c.size(); n++ {
			text := ownText(d.text(n))
			units, ok := impl.CutUnits(c.s, text)
			if !ok {
				t.Fatalf("CutUnits(%d, %q) is false", c.s, text)
			}
			var long []string
			for i, unit := range units {
				// Texts of one byte or none need no memory of their own.
				if len(unit) < 2 {
					continue
				}
				if within(unit, text) {
					t.Errorf("unit %d of %d bytes has memory of the text", i, len(unit))
				}
				long = append(long, unit)
			}
			wantNewTexts(t, "CutUnits", long, nil)
			var own []string
			for range c.units {
				own = append(own, ownText(d.text(n)))
			}
			joined, _ := impl.JoinUnits(c.s, own, n)
			wantNewTexts(t, "JoinUnits", []string{joined}, own)
		}
	}
}

func TestSpansAreNewMemory(t *testing.T) {
	for _, c := range schemas() {
		for _, n := range []int{1, 100, 1000} {
			want := slices.Clone(impl.Spans(c.s, n))
			spans := impl.Spans(c.s, n)
			spans = spans[:cap(spans)]
			for i := range spans {
				spans[i] = -7
			}
			if got := impl.Spans(c.s, n); !slices.Equal(got, want) {
				t.Errorf("Spans(%d, %d) behind one that was written over = %v", c.s, n, got)
			}
		}
	}
}

// A sender that is not at its end would stay for ever: it may be seen to end a little behind the answer,
// but not later.
func TestNothingRunsOnBehindAnAnswer(t *testing.T) {
	before := runtime.NumGoroutine()
	for range 300 {
		for _, c := range schemas() {
			full := strings.Repeat("u", c.size())
			for _, text := range []string{"", "u", full, full + "u"} {
				impl.CutUnits(c.s, text)
				impl.JoinUnits(c.s, make([]string, c.units), len(text))
				impl.JoinUnits(c.s, slices.Repeat([]string{text}, c.units), len(text))
				impl.JoinUnits(c.s, nil, len(text))
			}
		}
		impl.CutUnits(0, "u")
		impl.JoinUnits(0, []string{"u", "u"}, 1)
	}
	for range 200 {
		if runtime.NumGoroutine() <= before {
			return
		}
		time.Sleep(5 * time.Millisecond)
	}
	t.Errorf("%d run on behind the answers", runtime.NumGoroutine()-before)
}

func TestCallsAtTheSameTimeAnswerAlike(t *testing.T) {
	c := schemas()[2]
	text := "0123456789abcdefghijklmnopqrstuv"
	want := fmt.Sprintf("%q", c.cut(text))
	answers := make([]string, 16)
	var group sync.WaitGroup
	for i := range answers {
		group.Go(func() {
			for range 100 {
				units, _ := impl.CutUnits(c.s, text)
				back, _ := impl.JoinUnits(c.s, units, len(text))
				if answers[i] = fmt.Sprintf("%q", units); answers[i] != want || back != text {
					answers[i] = back
					return
				}
			}
		})
	}
	group.Wait()
	for _, got := range answers {
		if got != want {
			t.Errorf("beside other calls: %s, want %s", got, want)
		}
	}
}
