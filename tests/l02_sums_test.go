package tests

import (
	"hash/crc32"
	"math"
	"strings"
	"testing"

	"loop.example/g00197/impl"
)

// sumByBits is SumMore in the document's own words.
func sumByBits(sum uint32, text string) uint32 {
	for i := 0; i < len(text); i++ {
		sum ^= uint32(text[i])
		for range 8 {
			odd := sum%2 == 1
			sum /= 2
			if odd {
				sum ^= 3558460437
			}
		}
	}
	return sum
}

// sealedByBits is what Sealed answers to a text that is not too long.
func sealedByBits(text string) string {
	sum := sumByBits(math.MaxUint32, text)
	return text + string([]byte{byte(sum / 16777216), byte(sum / 65536 % 256), byte(sum / 256 % 256), byte(sum % 256)})
}

func (d *draw) text(length int) string {
	out := make([]byte, length)
	for i := range out {
		out[i] = byte(d.below(256))
	}
	return string(out)
}

func (d *draw) sum() uint32 {
	return uint32(d.below(65536))<<16 | uint32(d.below(65536))
}

// turned is text with other bits at a place; with no bits it is text itself.
func turned(text string, at int, bits byte) string {
	out := []byte(text)
	out[at] ^= bits
	return string(out)
}

func sealed(t *testing.T, text string) string {
	t.Helper()
	s, ok := impl.Sealed(text)
	if !ok {
		t.Fatalf("a text of %d bytes is not sealed", len(text))
	}
	return s
}

func refusesUnsealed(t *testing.T, what, text string) {
	t.Helper()
	if u, ok := impl.Unsealed(text); u != "" || ok {
		t.Errorf("%s: Unsealed answers a text of %d bytes, %v", what, len(u), ok)
	}
}

func TestSumsThatAreWrittenOut(t *testing.T) {
	for _, c := range []struct {
		sum  uint32
		text string
		want uint32
	}{
		{0, "", 0},
		{1, "", 1},
		{math.MaxUint32, "", math.MaxUint32},
		{0, "\x00", 0},
		{0, "\x80", 3558460437},
		{128, "\x00", 3558460437},
		{128, "\x80", 0},
		{256, "\x00", 1},
		{math.MaxUint32 - 255, "\x00", 16777215},
		{math.MaxUint32, "\xff", 16777215},
		{0, "\x40", 1779230218 ^ 3558460437},
	} {
		if s := impl.SumMore(c.sum, c.text); s != c.want {
			t.Errorf("SumMore(%d, %q) = %d, want %d", c.sum, c.text, s, c.want)
		}
	}
}

func TestSumOfEachByte(t *testing.T) {
	for i := range 256 {
		text := string([]byte{byte(i)})
		for _, sum := range []uint32{0, 1, 128, 1 << 31, math.MaxUint32 - 1, math.MaxUint32} {
			if s, want := impl.SumMore(sum, text), sumByBits(sum, text); s != want {
				t.Errorf("SumMore(%d, %q) = %d, want %d", sum, text, s, want)
			}
		}
		if s, want := impl.SumOf(text), sumByBits(4294967295, text); s != want {
			t.Errorf("SumOf(%q) = %d, want %d", text, s, want)
		}
	}
}

func TestSumOfEachBit(t *testing.T) {
	for bit := range 32 {
		for _, text := range []string{"\x00", "\x00\x00\x00\x00", "abc"} {
			sum := uint32(1) << bit
			if s, want := impl.SumMore(sum, text), sumByBits(sum, text); s != want {
				t.Errorf("SumMore(%d, %q) = %d, want %d", sum, text, s, want)
			}
		}
	}
}

func TestSumOfNoBytes(t *testing.T) {
	d := draw(1)
	for _, sum := range []uint32{0, 1, 1 << 31, math.MaxUint32, d.sum(), d.sum()} {
		if s := impl.SumMore(sum, ""); s != sum {
			t.Errorf("SumMore(%d, \"\") = %d", sum, s)
		}
	}
	if s := impl.SumOf(""); s != 4294967295 {
		t.Errorf("SumOf(\"\") = %d", s)
	}
}

func TestSumOfDrawnTexts(t *testing.T) {
	d := draw(2)
	for range 3000 {
		sum, text := d.sum(), d.text(d.below(60))
		if s, want := impl.SumMore(sum, text), sumByBits(sum, text); s != want {
			t.Fatalf("SumMore(%d, %q) = %d, want %d", sum, text, s, want)
		}
		if s, want := impl.SumOf(text), sumByBits(4294967295, text); s != want {
			t.Fatalf("SumOf(%q) = %d, want %d", text, s, want)
		}
	}
}

// The library has such sums, too, turned over at both ends.
func TestSumsAreTheLibrarys(t *testing.T) {
	d := draw(3)
	table := crc32.MakeTable(3558460437)
	for _, text := range []string{"", "a", "abc", "123456789", allBytes(), d.text(4000)} {
		if s, want := impl.SumOf(text), ^crc32.Checksum([]byte(text), table); s != want {
			t.Errorf("SumOf(%q) = %d, want %d", text, s, want)
		}
	}
}

func TestSumOfLongTexts(t *testing.T) {
	d := draw(4)
	for _, length := range []int{impl.MaxText, impl.MaxText + 1, 3 * impl.MaxText} {
		text := d.text(length)
		if s, want := impl.SumOf(text), sumByBits(4294967295, text); s != want {
			t.Errorf("SumOf a text of %d bytes = %d, want %d", length, s, want)
		}
		if s, want := impl.SumMore(7, text), sumByBits(7, text); s != want {
			t.Errorf("SumMore of 7 and a text of %d bytes = %d, want %d", length, s, want)
		}
	}
}

func TestSumMoreGoesOn(t *testing.T) {
	d := draw(5)
	for _, text := range []string{"abc", "\x00\x00\x00\x00\x00", allBytes(), d.text(90)} {
		for cut := range len(text) + 1 {
			if s := impl.SumMore(impl.SumOf(text[:cut]), text[cut:]); s != impl.SumOf(text) {
				t.Errorf("cut at %d of %d bytes, SumMore does not go on where SumOf stopped", cut, len(text))
			}
			for _, sum := range []uint32{0, math.MaxUint32, d.sum()} {
				if s := impl.SumMore(impl.SumMore(sum, text[:cut]), text[cut:]); s != impl.SumMore(sum, text) {
					t.Errorf("cut at %d of %d bytes, SumMore of %d does not go on", cut, len(text), sum)
				}
			}
		}
	}
}

func TestSealedWritten(t *testing.T) {
	if s := sealed(t, ""); s != "\xff\xff\xff\xff" {
		t.Errorf("Sealed(\"\") = %q", s)
	}
	if s := sealed(t, "\xff"); s != "\xff\x00\xff\xff\xff" {
		t.Errorf("Sealed(\"\\xff\") = %q", s)
	}
	d := draw(6)
	for range 1000 {
		text := d.text(d.below(60))
		if s := sealed(t, text); s != sealedByBits(text) {
			t.Fatalf("Sealed(%q) = %q, want %q", text, s, sealedByBits(text))
		}
	}
}

func TestSealedIsUnsealed(t *testing.T) {
	d := draw(7)
	texts := []string{"", "a", "abc", "\x00", "\x00\x00\x00\x00", "\xff\xff\xff\xff", allBytes(), sealedByBits("abc")}
	for length := range 200 {
		texts = append(texts, d.text(length))
	}
	for _, text := range texts {
		if u, ok := impl.Unsealed(sealed(t, text)); u != text || !ok {
			t.Errorf("%q is unsealed as %q, %v", text, u, ok)
		}
		if u, ok := impl.Unsealed(sealedByBits(text)); u != text || !ok {
			t.Errorf("%q, sealed bit by bit, is unsealed as %q, %v", text, u, ok)
		}
	}
}

func TestSealedAtTheLimit(t *testing.T) {
	d := draw(8)
	for _, length := range []int{impl.MaxText - 1, impl.MaxText} {
		text := d.text(length)
		s := sealed(t, text)
		if s != sealedByBits(text) {
			t.Errorf("a text of %d bytes is not sealed as the document says", length)
		}
		if u, ok := impl.Unsealed(s); u != text || !ok {
			t.Errorf("a text of %d bytes is not unsealed", length)
		}
	}
	for _, length := range []int{impl.MaxText + 1, impl.MaxText + 4, 2 * impl.MaxText} {
		if s, ok := impl.Sealed(d.text(length)); s != "" || ok {
			t.Errorf("a text of %d bytes is sealed: %d bytes, %v", length, len(s), ok)
		}
	}
}

func TestUnsealedRefusesLengths(t *testing.T) {
	d := draw(9)
	refusesUnsealed(t, "no bytes", "")
	for length := 1; length < 4; length++ {
		refusesUnsealed(t, "too short", strings.Repeat("\xff", length))
		refusesUnsealed(t, "too short", strings.Repeat("\x00", length))
		refusesUnsealed(t, "too short", d.text(length))
		refusesUnsealed(t, "the end of a sealed text", sealedByBits("abc")[7-length:])
	}
	for _, length := range []int{impl.MaxText + 1, impl.MaxText + 2, 2 * impl.MaxText} {
		refusesUnsealed(t, "too long, with its right sum", sealedByBits(d.text(length)))
	}
	whole := sealedByBits(d.text(40))
	for length := range len(whole) {
		refusesUnsealed(t, "cut at the end", whole[:length])
		refusesUnsealed(t, "cut at the beginning", whole[len(whole)-length:])
	}
}

func TestUnsealedRefusesOtherOrders(t *testing.T) {
	s := sealedByBits("abc")
	refusesUnsealed(t, "the lowest first", s[:3]+s[6:]+s[5:6]+s[4:5]+s[3:4])
	refusesUnsealed(t, "the sum ahead", s[3:]+s[:3])
	refusesUnsealed(t, "a byte behind", s+"\x00")
	refusesUnsealed(t, "a byte ahead", "\x00"+s)
	refusesUnsealed(t, "the sum without the text", s[3:])
	refusesUnsealed(t, "the sum of nothing, behind abc", "abc\xff\xff\xff\xff")
}

func TestUnsealedRefusesAByteTurned(t *testing.T) {
	d := draw(10)
	for _, text := range []string{"", "a", "abc", "\x00\x00\x00\x00\x00\x00", "\xff\xff\xff\xff\xff", allBytes()[100:130], d.text(50)} {
		whole := sealed(t, text)
		for at := range len(whole) {
			for bits := 1; bits < 256; bits++ {
				refusesUnsealed(t, "a byte turned", turned(whole, at, byte(bits)))
			}
		}
	}
}

func TestUnsealedRefusesAByteTurnedInALongText(t *testing.T) {
	d := draw(11)
	whole := sealed(t, d.text(impl.MaxText))
	for _, at := range []int{0, 1, impl.MaxText / 2, impl.MaxText - 1, impl.MaxText, impl.MaxText + 3} {
		for bit := range 8 {
			refusesUnsealed(t, "a byte turned", turned(whole, at, byte(1)<<bit))
		}
	}
	for range 300 {
		refusesUnsealed(t, "a byte turned", turned(whole, d.below(len(whole)), byte(1+d.below(255))))
	}
}

func TestSumsAreNewMemory(t *testing.T) {
	text := string([]byte("a text of its own"))
	whole := sealed(t, text)
	if within(whole, text) || within(text, whole) {
		t.Error("Sealed shares memory with its argument")
	}
	if u, ok := impl.Unsealed(whole); !ok || within(u, whole) {
		t.Errorf("Unsealed answers a piece of its argument, or none: %v", ok)
	}
}
