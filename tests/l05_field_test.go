package tests

import (
	"math"
	"strings"
	"testing"
	"unsafe"

	"loop.example/g00197/impl"
)

// mulByBits is MulG in the document's own words, of two numbers in 0 .. 255: the product of the
// polynomials, all of it, and only then what is left of it behind a division.
func mulByBits(a, b int) int {
	product := 0
	for i := range 8 {
		for j := range 8 {
			if a>>i%2 == 1 && b>>j%2 == 1 {
				product ^= 1 << (i + j)
			}
		}
	}
	for power := 14; power >= 8; power-- {
		if product>>power%2 == 1 {
			product ^= 285 << (power - 8)
		}
	}
	return product
}

// modulo is what is left of a behind a division by 256, not below 0.
func modulo(a int) int {
	return (a%256 + 256) % 256
}

// addByBytes is AddText of two texts that are first made as long as each other.
func addByBytes(a, b string) string {
	length := max(len(a), len(b))
	a += strings.Repeat("\x00", length-len(a))
	b += strings.Repeat("\x00", length-len(b))
	out := make([]byte, length)
	for i := range out {
		out[i] = a[i] ^ b[i]
	}
	return string(out)
}

func mulByBytes(a int, s string) string {
	var out []byte
	for i := range len(s) {
		out = append(out, byte(mulByBits(modulo(a), int(s[i]))))
	}
	return string(out)
}

// products has what MulG answers to all numbers of the field.
func products() *[256][256]int {
	var table [256][256]int
	for a := range 256 {
		for b := range 256 {
			table[a][b] = impl.MulG(a, b)
		}
	}
	return &table
}

// farNumbers are not in 0 .. 255.
func farNumbers() []int {
	d := draw(1)
	list := []int{
		-1, -2, -127, -128, -129, -255, -256, -257, -511, -512, 256, 257, 284, 285, 286, 383, 384, 511, 512, 513,
		1 << 31, 1<<32 + 3, -(1 << 32) - 3, math.MinInt32, math.MaxInt32, math.MaxUint32,
		math.MinInt, math.MinInt + 1, math.MinInt + 255, math.MinInt + 256, math.MaxInt, math.MaxInt - 1, math.MaxInt - 255, math.MaxInt - 256,
	}
	for range 60 {
		n := d.below(1<<31)<<32 | d.below(1<<31)<<1 | 512
		list = append(list, n, -n)
	}
	return list
}

func wantMul(t *testing.T, a, b, want int) {
	t.Helper()
	if p := impl.MulG(a, b); p != want {
		t.Errorf("MulG(%d, %d) = %d, want %d", a, b, p, want)
	}
}

func wantPow(t *testing.T, a, n, want int) {
	t.Helper()
	if p := impl.PowG(a, n); p != want {
		t.Errorf("PowG(%d, %d) = %d, want %d", a, n, p, want)
	}
}

func wantSum(t *testing.T, a, b, want string) {
	t.Helper()
	if s := impl.AddText(a, b); s != want {
		t.Errorf("AddText(%q, %q) = %q, want %q", a, b, s, want)
	}
}

func wantTimes(t *testing.T, a int, s, want string) {
	t.Helper()
	if p := impl.MulText(a, s); p != want {
		t.Errorf("MulText(%d, %q) = %q, want %q", a, s, p, want)
	}
}

func TestProductsThatAreWrittenOut(t *testing.T) {
	for _, c := range []struct{ a, b, want int }{
		{2, 2, 4},
		{3, 3, 5},
		{3, 7, 9},
		{2, 127, 254},
		{2, 128, 29},
		{4, 64, 29},
		{16, 16, 29},
		{2, 129, 31},
		{4, 128, 58},
		{32, 16, 58},
		{128, 128, 19},
		{2, 142, 1},
		{3, 244, 1},
		{255, 2, 227},
		{255, 255, 226},
	} {
		wantMul(t, c.a, c.b, c.want)
		wantMul(t, c.b, c.a, c.want)
		if p := mulByBits(c.a, c.b); p != c.want {
			t.Errorf("the test's own product of %d and %d is %d", c.a, c.b, p)
		}
	}
}

func TestProductsOfAllNumbers(t *testing.T) {
	for a := range 256 {
		for b := range 256 {
			wantMul(t, a, b, mulByBits(a, b))
		}
	}
}

func TestProductsDoNotCareForOrder(t *testing.T) {
	p := products()
	for a := range 256 {
		for b := range 256 {
			if p[a][b] != p[b][a] {
				t.Fatalf("MulG(%d, %d) = %d, but MulG(%d, %d) = %d", a, b, p[a][b], b, a, p[b][a])
			}
		}
	}
}

func TestProductsGoThroughSums(t *testing.T) {
	p := products()
	for a := range 256 {
		for b := range 256 {
			for c := range 256 {
				if p[a][b^c] != p[a][b]^p[a][c] {
					t.Fatalf("MulG(%d, %d) is not the sum of those with %d and with %d", a, b^c, b, c)
				}
			}
		}
	}
}

func TestProductsTakenTogetherEitherWay(t *testing.T) {
	p := products()
	for a := range 256 {
		for b := range 256 {
			if p[a][b] < 0 || p[a][b] > 255 {
				t.Fatalf("MulG(%d, %d) = %d is no number of the field", a, b, p[a][b])
			}
			for c := range 256 {
				if p[p[a][b]][c] != p[a][p[b][c]] {
					t.Fatalf("the product of %d, %d and %d hangs on which two are taken first", a, b, c)
				}
			}
		}
	}
}

func TestProductsWithNoughtAndOne(t *testing.T) {
	for a := range 256 {
		wantMul(t, a, 0, 0)
		wantMul(t, 0, a, 0)
		wantMul(t, a, 1, a)
		wantMul(t, 1, a, a)
	}
	for a := 1; a < 256; a++ {
		for b := 1; b < 256; b++ {
			if impl.MulG(a, b) == 0 {
				t.Fatalf("MulG(%d, %d) is 0", a, b)
			}
		}
	}
}

func TestProductsOfFarNumbers(t *testing.T) {
	near := []int{0, 1, 2, 3, 29, 127, 128, 254, 255}
	for _, a := range farNumbers() {
		for _, b := range near {
			wantMul(t, a, b, mulByBits(modulo(a), b))
			wantMul(t, b, a, mulByBits(b, modulo(a)))
		}
		for _, b := range farNumbers() {
			wantMul(t, a, b, mulByBits(modulo(a), modulo(b)))
		}
	}
	wantMul(t, math.MinInt, math.MinInt, 0)
	wantMul(t, math.MinInt, 1, 0)
	wantMul(t, math.MaxInt, 1, 255)
	wantMul(t, math.MaxInt, math.MaxInt, 226)
	wantMul(t, -1, 1, 255)
	wantMul(t, -254, 384, 29)
	wantMul(t, 285, 1, 29)
}

func TestPowersThatAreWrittenOut(t *testing.T) {
	for n, want := range []int{1, 2, 4, 8, 16, 32, 64, 128, 29, 58, 116, 232, 205, 135, 19, 38, 76, 152, 45} {
		wantPow(t, 2, n, want)
	}
	wantPow(t, 2, 25, 3)
	wantPow(t, 2, 254, 142)
	wantPow(t, 2, 255, 1)
	wantPow(t, 3, 2, 5)
}

func TestPowersOneStepAfterTheOther(t *testing.T) {
	for a := range 256 {
		want := 1
		for n := range 1001 {
			wantPow(t, a, n, want)
			want = mulByBits(want, a)
		}
	}
}

func TestPowersOfTwoAreAllNumbers(t *testing.T) {
	seen := map[int]int{}
	for n := range 255 {
		seen[impl.PowG(2, n)]++
	}
	for a := 1; a < 256; a++ {
		if seen[a] != 1 {
			t.Errorf("%d is %d of the powers of 2", a, seen[a])
		}
	}
}

func TestPowersAtTheEdges(t *testing.T) {
	for a := range 256 {
		wantPow(t, a, 0, 1)
		wantPow(t, a, 1, a)
		wantPow(t, a, 256, a)
		wantPow(t, a, 2, mulByBits(a, a))
		for _, n := range []int{-1, -2, -255, -1000, 1001, 1002, 1020, 1275, 1 << 20, 1 << 32, 1<<32 + 1, 1 << 40, -(1 << 32), math.MinInt, math.MinInt + 1, math.MaxInt - 1, math.MaxInt} {
			wantPow(t, a, n, 0)
		}
	}
	for a := 1; a < 256; a++ {
		wantPow(t, a, 255, 1)
		wantPow(t, a, 510, 1)
		wantPow(t, a, 765, 1)
		wantPow(t, a, 1000, impl.PowG(a, 235))
	}
	for n := 1; n <= 1000; n++ {
		wantPow(t, 0, n, 0)
		wantPow(t, 1, n, 1)
	}
}

func TestPowersOfFarNumbers(t *testing.T) {
	for _, a := range farNumbers() {
		want := 1
		for n := range 9 {
			wantPow(t, a, n, want)
			want = mulByBits(want, modulo(a))
		}
		for _, n := range []int{254, 255, 256, 999, 1000} {
			wantPow(t, a, n, impl.PowG(modulo(a), n))
		}
		wantPow(t, a, -1, 0)
		wantPow(t, a, 1001, 0)
	}
	wantPow(t, 256, 0, 1)
	wantPow(t, 256, 1, 0)
	wantPow(t, math.MinInt, 0, 1)
	wantPow(t, math.MinInt, 1000, 0)
	wantPow(t, math.MaxInt, 1, 255)
	wantPow(t, -254, 8, 29)
}

func TestEachNumberHasOneWithWhichItIsOne(t *testing.T) {
	for a := 1; a < 256; a++ {
		inverse := impl.InvG(a)
		wantMul(t, a, inverse, 1)
		if p := mulByBits(a, modulo(inverse)); p != 1 || inverse < 1 || inverse > 255 {
			t.Errorf("InvG(%d) = %d, with which it is %d", a, inverse, p)
		}
		for b := range 256 {
			if b != inverse && impl.MulG(a, b) == 1 {
				t.Errorf("InvG(%d) = %d, but with %d it is 1, too", a, inverse, b)
			}
		}
		if back := impl.InvG(inverse); back != a {
			t.Errorf("InvG(InvG(%d)) = %d", a, back)
		}
		if p := impl.PowG(a, 254); p != inverse {
			t.Errorf("InvG(%d) = %d, but its power of 254 is %d", a, inverse, p)
		}
	}
}

func TestInversesThatAreWrittenOut(t *testing.T) {
	for a, want := range map[int]int{0: 0, 1: 1, 2: 142, 142: 2, 3: 244, 244: 3, 4: 71, 71: 4} {
		if b := impl.InvG(a); b != want {
			t.Errorf("InvG(%d) = %d, want %d", a, b, want)
		}
	}
}

func TestInversesOfFarNumbers(t *testing.T) {
	for _, a := range farNumbers() {
		b := impl.InvG(a)
		if b != impl.InvG(modulo(a)) {
			t.Errorf("InvG(%d) = %d, not that of %d", a, b, modulo(a))
		}
		if modulo(a) != 0 {
			wantMul(t, a, b, 1)
		}
	}
	for a, want := range map[int]int{256: 0, -256: 0, math.MinInt: 0, 1 << 32: 0, 257: 1, -255: 1, math.MinInt + 1: 1, -254: 142, 258: 142} {
		if b := impl.InvG(a); b != want {
			t.Errorf("InvG(%d) = %d, want %d", a, b, want)
		}
	}
	if impl.InvG(math.MaxInt) != impl.InvG(255) || impl.InvG(-1) != impl.InvG(255) {
		t.Error("InvG of the greatest number, or of -1, is not that of 255")
	}
}

func TestSumsOfTexts(t *testing.T) {
	for _, c := range []struct{ a, b, want string }{
		{"", "", ""},
		{"", "a", "a"},
		{"", "\x00", "\x00"},
		{"\x00", "\x00", "\x00"},
		{"\x00", "\x00\x00\x00", "\x00\x00\x00"},
		{"\xff", "\xff", "\x00"},
		{"\xff", "\x00", "\xff"},
		{"\xff", "\x0f", "\xf0"},
		{"ab", "a", "\x00b"},
		{"ab", "ab", "\x00\x00"},
		{"\x01\x02\x03", "\x10\x20", "\x11\x22\x03"},
		{"\x80\x00", "\x80\x00\x00\xff", "\x00\x00\x00\xff"},
		{"", allBytes(), allBytes()},
		{strings.Repeat("\x00", 256), allBytes(), allBytes()},
	} {
		wantSum(t, c.a, c.b, c.want)
		wantSum(t, c.b, c.a, c.want)
	}
	for a := range 256 {
		for b := range 256 {
			wantSum(t, string([]byte{byte(a)}), string([]byte{byte(b)}), string([]byte{byte(a ^ b)}))
		}
	}
}

func TestSumsOfDrawnTexts(t *testing.T) {
	d := draw(2)
	for range 3000 {
		a, b, c := d.text(d.below(20)), d.text(d.below(20)), d.text(d.below(20))
		wantSum(t, a, b, addByBytes(a, b))
		wantSum(t, b, a, addByBytes(a, b))
		wantSum(t, impl.AddText(a, b), c, impl.AddText(a, impl.AddText(b, c)))
	}
}

func TestATextAddedTwiceLeavesTheOther(t *testing.T) {
	d := draw(3)
	for range 2000 {
		a, b := d.text(d.below(30)), d.text(d.below(30))
		filled := a + strings.Repeat("\x00", max(0, len(b)-len(a)))
		wantSum(t, impl.AddText(a, b), b, filled)
		wantSum(t, b, impl.AddText(b, a), filled)
		wantSum(t, a, a, strings.Repeat("\x00", len(a)))
		wantSum(t, a, "", a)
		wantSum(t, "", a, a)
	}
}

func TestTextsTimesANumber(t *testing.T) {
	wantTimes(t, 2, "\x80\x01", "\x1d\x02")
	wantTimes(t, 2, "\x00\x01\x7f\x80\xff", "\x00\x02\xfe\x1d\xe3")
	for a := range 256 {
		wantTimes(t, a, allBytes(), mulByBytes(a, allBytes()))
		wantTimes(t, a, "", "")
		wantTimes(t, a, "\x00", "\x00")
		wantTimes(t, a, "\x01", string([]byte{byte(a)}))
		for b := range 256 {
			wantTimes(t, a, string([]byte{byte(b)}), string([]byte{byte(impl.MulG(a, b))}))
		}
	}
	wantTimes(t, 0, allBytes(), strings.Repeat("\x00", 256))
	wantTimes(t, 1, allBytes(), allBytes())
}

func TestTextsTimesFarNumbers(t *testing.T) {
	for _, a := range farNumbers() {
		wantTimes(t, a, allBytes(), mulByBytes(a, allBytes()))
		wantTimes(t, a, "", "")
	}
	for _, a := range []int{256, -256, 1 << 32, math.MinInt} {
		wantTimes(t, a, "ab", "\x00\x00")
	}
	for _, a := range []int{257, -255, math.MinInt + 1} {
		wantTimes(t, a, "ab", "ab")
	}
	wantTimes(t, math.MaxInt, "\x01\xff", "\xff\xe2")
}

func TestTextsTimesANumberGoThroughSums(t *testing.T) {
	d := draw(4)
	for range 1000 {
		a, b := d.below(256), d.below(256)
		s, u := d.text(d.below(30)), d.text(d.below(30))
		wantTimes(t, a, impl.AddText(s, u), impl.AddText(impl.MulText(a, s), impl.MulText(a, u)))
		wantTimes(t, a^b, s, impl.AddText(impl.MulText(a, s), impl.MulText(b, s)))
		wantTimes(t, impl.MulG(a, b), s, impl.MulText(a, impl.MulText(b, s)))
		if a != 0 {
			wantTimes(t, impl.InvG(a), impl.MulText(a, s), s)
		}
	}
}

// The chapter names no limit for texts.
func TestLongTexts(t *testing.T) {
	d := draw(5)
	for _, length := range []int{impl.MaxText, impl.MaxText + 1, 3 * impl.MaxText} {
		a, b := d.text(length), d.text(length-7)
		if impl.AddText(a, b) != addByBytes(a, b) || impl.AddText(b, a) != addByBytes(a, b) {
			t.Errorf("of texts of %d and %d bytes the sum is another", len(a), len(b))
		}
		if impl.MulText(29, a) != mulByBytes(29, a) {
			t.Errorf("of a text of %d bytes the product is another", len(a))
		}
	}
}

func TestFieldsAreNewMemory(t *testing.T) {
	a, b := ownText("a text of its own"), ownText("another, which is a longer text")
	nought := ownText(strings.Repeat("\x00", 40))
	for what, c := range map[string]struct{ got, a, b string }{
		"a sum":                           {impl.AddText(a, b), a, b},
		"a sum, the longer one first":     {impl.AddText(b, a), a, b},
		"a sum with nothing":              {impl.AddText(a, ""), a, a},
		"a sum of nothing":                {impl.AddText("", b), b, b},
		"a sum with noughts":              {impl.AddText(nought, b), nought, b},
		"a product":                       {impl.MulText(7, a), a, a},
		"a product with 1":                {impl.MulText(1, a), a, a},
		"a product with 0":                {impl.MulText(0, a), a, a},
		"a product of noughts":            {impl.MulText(3, nought), nought, nought},
		"a product of noughts with 0":     {impl.MulText(0, nought), nought, nought},
		"a product with one that is far":  {impl.MulText(257, b), b, b},
		"a sum of a text with itself":     {impl.AddText(a, a), a, a},
		"a sum of noughts with what is 0": {impl.AddText(nought, "\x00"), nought, nought},
	} {
		if len(c.got) == 0 || within(c.got, c.a) || within(c.got, c.b) || within(c.a, c.got) || within(c.b, c.got) {
			t.Errorf("%s shares memory with an argument, or is nothing", what)
		}
	}
}

func TestFieldsWriteIntoNoArgument(t *testing.T) {
	for _, text := range []string{"a", "one text", allBytes(), strings.Repeat("\x00", 30), drawn(6, 300)} {
		room := []byte(text + "behind")
		seen := unsafe.String(&room[0], len(text))
		impl.AddText(seen, "a longer text than most, by which spare room would be written into")
		impl.AddText("a longer text than most, by which spare room would be written into", seen)
		impl.AddText(seen, "b")
		impl.AddText("b", seen)
		impl.AddText(seen, seen)
		impl.MulText(7, seen)
		impl.MulText(0, seen)
		if string(room) != text+"behind" {
			t.Errorf("an argument of %d bytes, or what is behind it, is written into", len(text))
		}
	}
}
