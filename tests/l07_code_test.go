package tests

import (
	"math"
	"slices"
	"strings"
	"testing"
	"unsafe"

	"loop.example/g00197/impl"
)

type schema struct{ s, units, sums int }

func (c schema) all() int {
	return c.units + c.sums
}

func schemas() []schema {
	return []schema{{1, 2, 1}, {2, 3, 2}, {3, 4, 2}}
}

func wrongSchemas() []int {
	return []int{0, 4, 5, -1, -2, -3, 7, 8, 255, 256, 257, 258, 259, 1<<8 + 3, 1<<16 + 1, 1 << 32, 1<<32 + 1, 1<<32 + 2, 1<<32 + 3,
		math.MaxInt32, math.MinInt32, math.MaxInt, math.MinInt, math.MinInt + 1, math.MinInt + 2, math.MinInt + 3}
}

// code is CodeOf in the document's own words; the inverses are looked for.
func (c schema) code() [][]int {
	rows := oneByNumbers(c.units)
	for i := range c.sums {
		var row []int
		for j := range c.units {
			n := 1
			for mulByBits((c.units+i)^j, n) != 1 && n < 256 {
				n++
			}
			row = append(row, n)
		}
		rows = append(rows, row)
	}
	return rows
}

func filled(units []string) []string {
	length := 0
	for _, unit := range units {
		length = max(length, len(unit))
	}
	var out []string
	for _, unit := range units {
		out = append(out, unit+strings.Repeat("\x00", length-len(unit)))
	}
	return out
}

func (c schema) encoded(units []string) []string {
	whole := filled(units)
	return append(whole, applyByBytes(c.code()[c.units:], whole)...)
}

func (d *draw) unitsOf(count, length int) []string {
	var out []string
	for range count {
		out = append(out, d.text(length))
	}
	return out
}

// haves has each way in which so many of a list are there.
func haves(all, there int) [][]bool {
	var out [][]bool
	for set := range 1 << all {
		have, n := make([]bool, all), 0
		for i := range have {
			have[i] = set>>i&1 == 1
			if have[i] {
				n++
			}
		}
		if n == there {
			out = append(out, have)
		}
	}
	return out
}

// enough has each way in which no more are lost than there are sums.
func (c schema) enough() [][]bool {
	var out [][]bool
	for there := c.units; there <= c.all(); there++ {
		out = append(out, haves(c.all(), there)...)
	}
	return out
}

// lost is a list in which other texts stand at the places that are not there.
func lost(list []string, have []bool, other func(i int) string) []string {
	out := slices.Clone(list)
	for i := range out {
		if !have[i] {
			out[i] = other(i)
		}
	}
	return out
}

func wantEncoded(t *testing.T, c schema, units, want []string) {
	t.Helper()
	if got, ok := impl.Encode(c.s, units); !ok || !slices.Equal(got, want) {
		t.Errorf("Encode(%d, %q) = %q, %t, want %q", c.s, units, got, ok, want)
	}
}

func wantNotEncoded(t *testing.T, what string, s int, units []string) {
	t.Helper()
	if got, ok := impl.Encode(s, units); ok || len(got) != 0 {
		t.Errorf("%s: Encode of schema %d and %d units = %q, %t", what, s, len(units), got, ok)
	}
}

// wantBack asks for the units and for all of the list again.
func wantBack(t *testing.T, what string, c schema, list []string, have []bool, want []string) {
	t.Helper()
	if got, ok := impl.Decode(c.s, list, have); !ok || !slices.Equal(got, want[:c.units]) {
		t.Errorf("%s: Decode(%d, %q, %t) = %q, %t, want %q", what, c.s, list, have, got, ok, want[:c.units])
	}
	if got, ok := impl.Rebuild(c.s, list, have); !ok || !slices.Equal(got, want) {
		t.Errorf("%s: Rebuild(%d, %q, %t) = %q, %t, want %q", what, c.s, list, have, got, ok, want)
	}
}

func wantNotBack(t *testing.T, what string, s int, list []string, have []bool) {
	t.Helper()
	if got, ok := impl.Decode(s, list, have); ok || len(got) != 0 {
		t.Errorf("%s: Decode(%d, %q, %t) = %q, %t", what, s, list, have, got, ok)
	}
	if got, ok := impl.Rebuild(s, list, have); ok || len(got) != 0 {
		t.Errorf("%s: Rebuild(%d, %q, %t) = %q, %t", what, s, list, have, got, ok)
	}
}

func TestSchemas(t *testing.T) {
	if impl.SchemaSmall != 1 || impl.SchemaMiddle != 2 || impl.SchemaWide != 3 {
		t.Error("the schemas have other numbers")
	}
	for _, c := range schemas() {
		if units, sums, ok := impl.SchemaOf(c.s); units != c.units || sums != c.sums || !ok {
			t.Errorf("SchemaOf(%d) = %d, %d, %t", c.s, units, sums, ok)
		}
	}
}

func TestSchemasThatAreNone(t *testing.T) {
	for _, s := range wrongSchemas() {
		if units, sums, ok := impl.SchemaOf(s); units != 0 || sums != 0 || ok {
			t.Errorf("SchemaOf(%d) = %d, %d, %t", s, units, sums, ok)
		}
		if code := impl.CodeOf(s); len(code) != 0 {
			t.Errorf("CodeOf(%d) = %v", s, code)
		}
		for count := range 9 {
			units, have := make([]string, count), slices.Repeat([]bool{true}, count)
			wantNotEncoded(t, "a schema that is none", s, units)
			wantNotBack(t, "a schema that is none", s, units, have)
			wantNotBack(t, "a schema that is none, nothing there", s, units, make([]bool, count))
		}
	}
}

func TestCodesThatAreWrittenOut(t *testing.T) {
	for s, want := range map[int][][]int{
		impl.SchemaSmall:  {{1, 0}, {0, 1}, {142, 244}},
		impl.SchemaMiddle: {{1, 0, 0}, {0, 1, 0}, {0, 0, 1}, {244, 142, 1}, {71, 167, 122}},
		impl.SchemaWide:   {{1, 0, 0, 0}, {0, 1, 0, 0}, {0, 0, 1, 0}, {0, 0, 0, 1}, {71, 167, 122, 186}, {167, 71, 186, 122}},
	} {
		if code := impl.CodeOf(s); !sameMatrix(code, want) {
			t.Errorf("CodeOf(%d) = %v, want %v", s, code, want)
		}
	}
}

func TestCodesNumberByNumber(t *testing.T) {
	for _, c := range schemas() {
		code := impl.CodeOf(c.s)
		if !sameMatrix(code, c.code()) || !impl.MatrixOk(code) || len(code) != c.all() {
			t.Fatalf("CodeOf(%d) = %v, want %v", c.s, code, c.code())
		}
		if !sameMatrix(code[:c.units], impl.OneM(c.units)) {
			t.Errorf("CodeOf(%d) does not begin with OneM: %v", c.s, code)
		}
		for i, row := range code[c.units:] {
			for j, n := range row {
				if n != impl.InvG((c.units+i)^j) {
					t.Errorf("sum %d of schema %d has %d at unit %d", i, c.s, n, j)
				}
			}
		}
	}
}

// With this as many may be lost as there are sums, whichever they are.
func TestRowsOfCodesHaveAnInverse(t *testing.T) {
	for _, c := range schemas() {
		code := impl.CodeOf(c.s)
		for _, have := range haves(c.all(), c.units) {
			var rows [][]int
			for i, row := range code {
				if have[i] {
					rows = append(rows, row)
				}
			}
			if determinant(rows) == 0 {
				t.Errorf("schema %d: the rows %v have no inverse", c.s, rows)
			}
		}
	}
}

func TestEncodeThatIsWrittenOut(t *testing.T) {
	for _, c := range []struct {
		s           int
		units, want []string
	}{
		{1, []string{"hall", "door"}, []string{"hall", "door", "\xe3\x9b\x13\x18"}},
		{1, []string{"\x02", "\x03"}, []string{"\x02", "\x03", "\x00"}},
		{1, []string{"\x01", "\x00"}, []string{"\x01", "\x00", "\x8e"}},
		{1, []string{"\x00", "\x01"}, []string{"\x00", "\x01", "\xf4"}},
		{1, []string{"", "\x01\x02"}, []string{"\x00\x00", "\x01\x02", "\xf4\xf5"}},
		{1, []string{"\x02", ""}, []string{"\x02", "\x00", "\x01"}},
		{1, []string{"", ""}, []string{"", "", ""}},
		{2, []string{"\x01", "", "\x00\x01"}, []string{"\x01\x00", "\x00\x00", "\x00\x01", "\xf4\x01", "\x47\x7a"}},
		{3, []string{"\x01", "\x01", "\x01", "\x01"}, []string{"\x01", "\x01", "\x01", "\x01", "\x20", "\x20"}},
		{3, []string{"", "", "", "\x01\x02"}, []string{"\x00\x00", "\x00\x00", "\x00\x00", "\x01\x02", "\xba\x69", "\x7a\xf4"}},
	} {
		of := schemas()[c.s-1]
		wantEncoded(t, of, c.units, c.want)
		if got := of.encoded(c.units); !slices.Equal(got, c.want) {
			t.Errorf("the test's own Encode(%d, %q) is %q", c.s, c.units, got)
		}
	}
}

func TestEncodeOfUnitsOfOneLength(t *testing.T) {
	d := draw(81)
	for _, c := range schemas() {
		for length := range 201 {
			units := d.unitsOf(c.units, length)
			wantEncoded(t, c, units, c.encoded(units))
			got, _ := impl.Encode(c.s, units)
			if len(got) != c.all() || !slices.Equal(got[:c.units], units) {
				t.Errorf("schema %d: units of %d bytes are not left as they are", c.s, length)
			}
			if !slices.Equal(got, impl.ApplyM(impl.CodeOf(c.s), units)) {
				t.Errorf("schema %d: units of %d bytes are not ApplyM of CodeOf", c.s, length)
			}
		}
	}
}

func TestEncodeOfUnitsOfUnlikeLengths(t *testing.T) {
	d := draw(82)
	for _, c := range schemas() {
		for i := range 600 {
			var units []string
			for range c.units {
				units = append(units, d.text(d.below([]int{3, 12, 201}[i%3])))
			}
			wantEncoded(t, c, units, c.encoded(units))
			wantEncoded(t, c, filled(units), c.encoded(units))
		}
	}
}

// The longest may stand at each place, and the others may have nothing at all.
func TestEncodeOfUnitsOfNothing(t *testing.T) {
	for _, c := range schemas() {
		wantEncoded(t, c, make([]string, c.units), make([]string, c.all()))
		noughts := slices.Repeat([]string{"\x00\x00"}, c.all())
		wantEncoded(t, c, noughts[:c.units], noughts)
		for set := range 1 << c.units {
			units := make([]string, c.units)
			for i := range units {
				if set>>i&1 == 1 {
					units[i] = strings.Repeat("u", 1+i)
				}
			}
			wantEncoded(t, c, units, c.encoded(units))
			for i := range units {
				if units[i] == "" {
					units[i] = strings.Repeat("\x00", 1+i)
				}
			}
			wantEncoded(t, c, units, c.encoded(units))
		}
	}
}

func TestEncodeAtTheLimit(t *testing.T) {
	d := draw(83)
	for _, c := range schemas() {
		long := d.unitsOf(c.units, 200)
		wantEncoded(t, c, long, c.encoded(long))
		wantNotEncoded(t, "all of 201 bytes", c.s, d.unitsOf(c.units, 201))
		for i := range c.units {
			alone := make([]string, c.units)
			alone[i] = long[i]
			wantEncoded(t, c, alone, c.encoded(alone))
			for _, length := range []int{201, 202, 255, 256, 400, 456, impl.MaxText} {
				units := slices.Clone(long)
				units[i] = strings.Repeat("u", length)
				wantNotEncoded(t, "one that is too long among long ones", c.s, units)
				alone[i] = units[i]
				wantNotEncoded(t, "one that is too long among empty ones", c.s, alone)
				alone[i] = strings.Repeat("\x00", length)
				wantNotEncoded(t, "one that is too long, of bytes 0", c.s, alone)
			}
		}
	}
}

func TestEncodeOfAnotherNumberOfUnits(t *testing.T) {
	for _, c := range schemas() {
		for count := range 12 {
			if count != c.units {
				wantNotEncoded(t, "units of nothing", c.s, make([]string, count))
				wantNotEncoded(t, "some units", c.s, slices.Repeat([]string{"unit"}, count))
			}
		}
		wantNotEncoded(t, "no units", c.s, nil)
		wantNotEncoded(t, "many units", c.s, slices.Repeat([]string{"unit"}, c.units+256))
	}
}

func TestAllIsThereWithAsManyLostAsSums(t *testing.T) {
	d := draw(84)
	for _, c := range schemas() {
		for _, length := range []int{0, 1, 2, 3, 8, 17, 100, 199, 200} {
			list, ok := impl.Encode(c.s, d.unitsOf(c.units, length))
			if !ok || len(list) != c.all() {
				t.Fatalf("schema %d: %d of units of %d bytes, %t", c.s, len(list), length, ok)
			}
			for _, have := range c.enough() {
				wantBack(t, "lost ones as they were", c, list, have, list)
				wantBack(t, "lost ones empty", c, lost(list, have, func(int) string { return "" }), have, list)
				wantBack(t, "lost ones of bytes 0", c, lost(list, have, func(int) string { return strings.Repeat("\x00", length) }), have, list)
				wantBack(t, "lost ones of other bytes", c, lost(list, have, func(int) string { return d.text(length) }), have, list)
				wantBack(t, "lost ones of other lengths", c, lost(list, have, func(i int) string { return d.text(length + 1 + i) }), have, list)
				wantBack(t, "lost ones that are long", c, lost(list, have, func(i int) string { return strings.Repeat("l", 201+i) }), have, list)
			}
		}
	}
}

func TestUnitsOfUnlikeLengthsComeBackFilled(t *testing.T) {
	d := draw(85)
	for _, c := range schemas() {
		for range 20 {
			units := d.units(c.units)
			list, ok := impl.Encode(c.s, units)
			if !ok || len(list) != c.all() {
				t.Fatalf("schema %d: %d of %q, %t", c.s, len(list), units, ok)
			}
			for _, have := range c.enough() {
				wantBack(t, "units of unlike lengths", c, list, have, append(filled(units), list[c.units:]...))
			}
		}
	}
}

func TestMoreLostThanSums(t *testing.T) {
	d := draw(86)
	for _, c := range schemas() {
		for _, length := range []int{0, 1, 9, 200} {
			list := c.encoded(d.unitsOf(c.units, length))
			for there := range c.units {
				for _, have := range haves(c.all(), there) {
					wantNotBack(t, "too few are there", c.s, list, have)
					wantNotBack(t, "too few are there, others empty", c.s, lost(list, have, func(int) string { return "" }), have)
				}
			}
		}
	}
}

// Those that are there must be of one length, also those behind the first so many.
func TestTextsThatAreThereOfUnlikeLengths(t *testing.T) {
	d := draw(87)
	for _, c := range schemas() {
		for _, length := range []int{0, 1, 9, 200} {
			list := c.encoded(d.unitsOf(c.units, length))
			for _, have := range c.enough() {
				for i := range list {
					for _, other := range []int{0, length - 1, length + 1, length + 256, 201} {
						if other < 0 || other == length {
							continue
						}
						changed := slices.Clone(list)
						changed[i] = d.text(other)
						if have[i] {
							wantNotBack(t, "one that is there of another length", c.s, changed, have)
						} else {
							wantBack(t, "one that is not there of another length", c, changed, have, list)
						}
					}
				}
			}
		}
	}
}

func TestThoseThatAreNotThereHaveALengthOfTheirOwn(t *testing.T) {
	d := draw(88)
	for _, c := range schemas() {
		for _, have := range c.enough() {
			list := c.encoded(d.unitsOf(c.units, 5))
			changed := lost(list, have, func(int) string { return "longer ones" })
			wantBack(t, "those that are not there have a length of their own", c, changed, have, list)
			for i := range have {
				if have[i] {
					list[i] += "\x00"
				}
			}
			wantMade(t, "a byte 0 behind all that are there", c, list, have)
		}
	}
}

// wantMade asks that the units make, by their rows, the first so many that are there: as these rows
// have an inverse, no other units do.
func wantMade(t *testing.T, what string, c schema, list []string, have []bool) {
	t.Helper()
	units, ok := impl.Decode(c.s, list, have)
	if !ok || len(units) != c.units {
		t.Fatalf("%s: Decode(%d, %q, %t) = %q, %t", what, c.s, list, have, units, ok)
	}
	whole, taken := c.encoded(units), 0
	for i := range list {
		if !have[i] || taken == c.units {
			continue
		}
		taken++
		if whole[i] != list[i] {
			t.Fatalf("%s: Decode(%d, %q, %t) = %q, of which %d is %q", what, c.s, list, have, units, i, whole[i])
		}
	}
	wantBack(t, what, c, list, have, whole)
}

func TestTheFirstThatAreThereAreTaken(t *testing.T) {
	d := draw(89)
	for _, c := range schemas() {
		list := c.encoded(d.unitsOf(c.units, 7))
		for _, have := range c.enough() {
			taken := 0
			for i := range list {
				if !have[i] {
					continue
				}
				changed := slices.Clone(list)
				changed[i] = turned(changed[i], d.below(7), byte(1+d.below(255)))
				if taken++; taken > c.units {
					wantBack(t, "a byte turned behind the first so many", c, changed, have, list)
					continue
				}
				got, ok := impl.Decode(c.s, changed, have)
				if !ok || slices.Equal(got, list[:c.units]) {
					t.Errorf("schema %d: a byte of %d turned, %t are there: %q, %t", c.s, i, have, got, ok)
				}
			}
		}
	}
}

// Of texts that no units have made together, those that are taken are made by the answer all the same.
func TestTextsThatWereNotEncoded(t *testing.T) {
	d := draw(90)
	for _, c := range schemas() {
		for _, have := range c.enough() {
			list := d.unitsOf(c.all(), 2)
			list = lost(list, have, func(int) string { return d.text(d.below(9)) })
			wantMade(t, "texts that were not encoded", c, list, have)
		}
	}
}

func TestDrawnListsAndHaves(t *testing.T) {
	d := draw(91)
	back, refused := 0, 0
	for range 6000 {
		c := schemas()[d.below(3)]
		list := c.encoded(d.units(c.units))
		var have []bool
		var lengths []int
		for i := range list {
			have = append(have, d.below(4) > 0)
			if d.below(12) == 0 {
				list[i] = d.text(d.below(12))
			}
			if have[i] {
				lengths = append(lengths, len(list[i]))
			}
		}
		if len(lengths) < c.units || slices.Min(lengths) != slices.Max(lengths) {
			refused++
			wantNotBack(t, "a drawn list", c.s, list, have)
			continue
		}
		back++
		wantMade(t, "a drawn list", c, list, have)
	}
	if back < 500 || refused < 500 {
		t.Errorf("%d of the drawn lists come back, and %d do not", back, refused)
	}
}

func TestListsAndHavesOfOtherLengths(t *testing.T) {
	for _, c := range schemas() {
		for n := range 12 {
			for m := range 12 {
				list, have := slices.Repeat([]string{"unit"}, n), slices.Repeat([]bool{true}, m)
				if n == c.all() && m == c.all() {
					if _, ok := impl.Decode(c.s, list, have); !ok {
						t.Errorf("schema %d: %d texts, all there, are refused", c.s, n)
					}
					continue
				}
				wantNotBack(t, "a list or a have of another length", c.s, list, have)
				wantNotBack(t, "a list or a have of another length, nothing there", c.s, list, make([]bool, m))
				wantNotBack(t, "a list or a have of another length, texts of nothing", c.s, make([]string, n), have)
			}
		}
		right := c.encoded(make([]string, c.units))
		wantNotBack(t, "no list", c.s, nil, slices.Repeat([]bool{true}, c.all()))
		wantNotBack(t, "no have", c.s, right, nil)
		wantNotBack(t, "neither", c.s, nil, nil)
		wantNotBack(t, "units alone", c.s, right[:c.units], slices.Repeat([]bool{true}, c.units))
		wantNotBack(t, "many texts", c.s, make([]string, c.all()+256), slices.Repeat([]bool{true}, c.all()+256))
	}
	for _, c := range schemas() {
		for _, other := range schemas() {
			if c != other {
				list := c.encoded(slices.Repeat([]string{"unit"}, c.units))
				wantNotBack(t, "a list of another schema", other.s, list, slices.Repeat([]bool{true}, c.all()))
			}
		}
	}
}

// The limit of a unit is Encode's alone, and by it Rebuild's.
func TestDecodeOfLongTexts(t *testing.T) {
	d := draw(92)
	for _, c := range schemas() {
		for _, length := range []int{201, 256, 3000} {
			list := c.encoded(d.unitsOf(c.units, length))
			for _, have := range c.enough() {
				if got, ok := impl.Decode(c.s, list, have); !ok || !slices.Equal(got, list[:c.units]) {
					t.Errorf("schema %d: units of %d bytes do not come back, %t there", c.s, length, have)
				}
				if got, ok := impl.Rebuild(c.s, list, have); ok || len(got) != 0 {
					t.Errorf("schema %d: of units of %d bytes Rebuild has %d, %t", c.s, length, len(got), ok)
				}
			}
		}
	}
}

func TestRebuildOfWhatIsRebuilt(t *testing.T) {
	d := draw(93)
	for _, c := range schemas() {
		list := c.encoded(d.units(c.units))
		for range 200 {
			ways := c.enough()
			have := ways[d.below(len(ways))]
			got, ok := impl.Rebuild(c.s, lost(list, have, func(int) string { return d.text(d.below(9)) }), have)
			if !ok || !slices.Equal(got, list) {
				t.Fatalf("Rebuild(%d, %q, %t) = %q, %t", c.s, list, have, got, ok)
			}
			list = got
		}
	}
}

func TestCodesWriteIntoNoArgument(t *testing.T) {
	d := draw(94)
	for _, c := range schemas() {
		for _, have := range slices.Concat(c.enough(), haves(c.all(), c.units-1)) {
			whole := c.encoded(d.unitsOf(c.units, 6))
			units, list, there := spare(d.units(c.units), "behind"), spare(whole, "behind"), spare(have, true)
			seen := slices.Clone(units[:len(units)+3])
			encoded, _ := impl.Encode(c.s, units)
			decoded, _ := impl.Decode(c.s, list, there)
			rebuilt, _ := impl.Rebuild(c.s, list, there)
			for _, answer := range [][]string{encoded, decoded, rebuilt} {
				answer = answer[:cap(answer)]
				for i := range answer {
					answer[i] = "another"
				}
			}
			if !slices.Equal(units[:len(units)+3], seen) {
				t.Errorf("units, or what is behind them, are written into: %q, not %q", units[:len(units)+3], seen)
			}
			if !slices.Equal(list[:len(list)+3], append(slices.Clone(whole), "behind", "behind", "behind")) {
				t.Errorf("a list, or what is behind it, is written into: %q", list[:len(list)+3])
			}
			if !slices.Equal(there[:len(there)+3], append(slices.Clone(have), true, true, true)) {
				t.Errorf("a have, or what is behind it, is written into: %t", there[:len(there)+3])
			}
		}
	}
}

func TestTextsOfUnitsAreNotWrittenInto(t *testing.T) {
	room := []byte("one textbehind")
	unit := unsafe.String(&room[0], len("one text"))
	for _, c := range schemas() {
		long := slices.Repeat([]string{"a longer text than the other one"}, c.units)
		for i := range c.units {
			long[i] = unit
			impl.Encode(c.s, long)
		}
		list := slices.Repeat([]string{unit}, c.all())
		for _, have := range c.enough() {
			impl.Decode(c.s, list, have)
			impl.Rebuild(c.s, list, have)
		}
	}
	if string(room) != "one textbehind" {
		t.Errorf("a text, or what is behind it, is written into: %q", room)
	}
}

func wantNewTexts(t *testing.T, what string, answer []string, arguments []string) {
	t.Helper()
	for i, text := range answer {
		for _, argument := range arguments {
			if within(text, argument) {
				t.Errorf("%s: text %d has memory of an argument", what, i)
			}
		}
		for j := range i {
			if within(text, answer[j]) {
				t.Errorf("%s: texts %d and %d are in the same memory", what, j, i)
			}
		}
	}
}

func TestUnitsAndSumsAreNewMemory(t *testing.T) {
	d := draw(95)
	for _, c := range schemas() {
		var units, list []string
		for range c.units {
			units = append(units, ownText(d.text(20)))
		}
		same := slices.Repeat([]string{ownText("the same text at each place")}, c.units)
		for what, some := range map[string][]string{"units": units, "the same unit": same} {
			got, ok := impl.Encode(c.s, some)
			if !ok {
				t.Fatalf("Encode(%d, %q) is false", c.s, some)
			}
			wantNewTexts(t, what+", Encode", got, some)
		}
		for _, text := range c.encoded(units) {
			list = append(list, ownText(text))
		}
		for _, have := range c.enough() {
			decoded, _ := impl.Decode(c.s, list, have)
			rebuilt, _ := impl.Rebuild(c.s, list, have)
			wantNewTexts(t, "Decode", decoded, list)
			wantNewTexts(t, "Rebuild", rebuilt, list)
		}
	}
}

func TestCodesAreNewMemory(t *testing.T) {
	for _, c := range schemas() {
		wantOwnRows(t, "CodeOf", impl.CodeOf(c.s))
		scribble(impl.CodeOf(c.s))
		if code := impl.CodeOf(c.s); !sameMatrix(code, c.code()) {
			t.Errorf("CodeOf(%d) behind one that was written over = %v", c.s, code)
		}
	}
}
