package tests

import (
	"math"
	"slices"
	"strings"
	"testing"
	"unsafe"

	"loop.example/g00197/impl"
)

// headByBits is the length and the sum of a frame in the document's own words, for a text of any length
// below 16384.
func headByBits(text string) string {
	n := len(text)
	head := string([]byte{byte(n)})
	if n > 127 {
		head = string([]byte{byte(n%128 + 128), byte(n / 128)})
	}
	return head + sealedByBits(text)[n:]
}

func frameByBits(text string) string {
	return headByBits(text) + text
}

func framesByBits(texts ...string) string {
	var out strings.Builder
	for _, text := range texts {
		out.WriteString(frameByBits(text))
	}
	return out.String()
}

func drawn(seed, length int) string {
	d := draw(seed)
	return d.text(length)
}

// plainUnframe tries every length a frame may have; it is for short files.
func plainUnframe(file string) ([]string, int) {
	var records []string
	at := 0
	for n := 1; n <= len(file)-at; n++ {
		for _, head := range []int{5, 6} {
			from := at + head
			if from+n <= len(file) && frameByBits(file[from:from+n]) == file[at:from+n] {
				records = append(records, file[from:from+n])
				at, n = from+n, 0
				break
			}
		}
	}
	return records, at
}

func framed(t *testing.T, text string) string {
	t.Helper()
	f, ok := impl.Frame(text)
	if !ok {
		t.Fatalf("a record of %d bytes has no frame", len(text))
	}
	return f
}

func wantRecords(t *testing.T, what, file string, want []string, end int) {
	t.Helper()
	records, at := impl.Unframe(file)
	if !slices.Equal(records, want) || at != end {
		t.Errorf("%s: of a file of %d bytes %d records come back, up to %d; want %d, up to %d (or they are others)",
			what, len(file), len(records), at, len(want), end)
	}
}

// someRecords have both kinds of lengths, those at the step between them among them.
func someRecords() []string {
	d := draw(1)
	return []string{"one", "\x00", d.text(127), "\xff\xff\xff\xff", d.text(128), allBytes(), "\x00\x00", d.text(300), "z"}
}

func TestLimitOfFrames(t *testing.T) {
	if impl.MaxRecord != 9000 {
		t.Error("a limit is not the document's")
	}
}

func TestFrameWritten(t *testing.T) {
	for text, want := range map[string]string{
		"\xff":             "\x01\x00\xff\xff\xff\xff",
		"\xff\xff":         "\x02\x00\x00\xff\xff\xff\xff",
		"\xff\xff\xff\xff": "\x04\x00\x00\x00\x00\xff\xff\xff\xff",
	} {
		if f := framed(t, text); f != want {
			t.Errorf("Frame(%q) = %q, want %q", text, f, want)
		}
	}
	d := draw(2)
	for length := 1; length <= 600; length++ {
		text := d.text(length)
		if f := framed(t, text); f != frameByBits(text) {
			t.Fatalf("Frame(%q) = %q, want %q", text, f, frameByBits(text))
		}
	}
	if f := framed(t, d.text(127)); f[0] != 127 || len(f) != 1+4+127 {
		t.Errorf("a record of 127 bytes has a frame of %d", len(f))
	}
	if f := framed(t, d.text(128)); f[:2] != "\x80\x01" || len(f) != 2+4+128 {
		t.Errorf("a record of 128 bytes has a frame of %d", len(f))
	}
}

func TestFrameOfAnyBytes(t *testing.T) {
	texts := []string{allBytes(), strings.Repeat("\x00", 500), strings.Repeat("\xff", 500), framesByBits("one", "two")}
	for i := range 256 {
		texts = append(texts, string([]byte{byte(i)}), string([]byte{byte(i), 0}), string([]byte{0, byte(i)}))
	}
	for _, text := range texts {
		f := framed(t, text)
		if f != frameByBits(text) {
			t.Errorf("Frame(%q) = %q, want %q", text, f, frameByBits(text))
		}
		wantRecords(t, "bytes of any kind", f, []string{text}, len(f))
	}
}

func TestFrameAtTheLimit(t *testing.T) {
	d := draw(3)
	for _, length := range []int{impl.MaxRecord - 1, impl.MaxRecord} {
		text := d.text(length)
		f := framed(t, text)
		if f != frameByBits(text) {
			t.Errorf("a record of %d bytes has not the frame that the document says", length)
		}
		wantRecords(t, "a long record", f, []string{text}, length+6)
		wantRecords(t, "long records", f+f, []string{text, text}, 2*length+12)
		wantRecords(t, "a long record, torn", f[:length+5], nil, 0)
	}
}

func TestFrameRefuses(t *testing.T) {
	if f, ok := impl.Frame(""); f != "" || ok {
		t.Errorf("Frame(\"\") = %q, %v", f, ok)
	}
	d := draw(4)
	for _, length := range []int{impl.MaxRecord + 1, impl.MaxRecord + 2, 16384, impl.MaxText, impl.MaxText + 1, 5 * impl.MaxText} {
		if f, ok := impl.Frame(d.text(length)); f != "" || ok {
			t.Errorf("a record of %d bytes has a frame of %d, %v", length, len(f), ok)
		}
	}
}

func TestRecordsComeBackInOrder(t *testing.T) {
	file := ""
	var records []string
	for _, text := range append(someRecords(), "one", "one", "two", "one") {
		file += framed(t, text)
		records = append(records, text)
		wantRecords(t, "frames one behind the other", file, records, len(file))
		wantRecords(t, "frames bit by bit", framesByBits(records...), records, len(file))
	}
	for _, length := range []int{1, 2, 126, 127, 128, 129, 255, 256, 257, 1000} {
		text := drawn(length, length)
		wantRecords(t, "a frame alone", framed(t, text), []string{text}, len(frameByBits(text)))
	}
}

func TestAFileCutAtEveryPlace(t *testing.T) {
	records := someRecords()
	file := framesByBits(records...)
	whole, end := 0, 0
	for cut := range len(file) + 1 {
		if whole < len(records) && cut == end+len(frameByBits(records[whole])) {
			whole, end = whole+1, cut
		}
		wantRecords(t, "a file that is cut", file[:cut], records[:whole], end)
	}
	if whole != len(records) {
		t.Errorf("%d of %d records were whole at the end", whole, len(records))
	}
}

func TestALongFileCut(t *testing.T) {
	d := draw(5)
	records := []string{d.text(impl.MaxRecord), "one", d.text(impl.MaxRecord), d.text(900)}
	file := framesByBits(records...)
	first := impl.MaxRecord + 6
	for cut, whole := range map[int]int{
		0: 0, 1: 0, 2: 0, 6: 0, 7: 0, first - 1: 0,
		first: 1, first + 1: 1, first + 7: 1,
		first + 8: 2, first + 9: 2, 2*first + 7: 2,
		2*first + 8: 3, 2*first + 9: 3, len(file) - 1: 3, len(file): 4,
	} {
		wantRecords(t, "a long file that is cut", file[:cut], records[:whole], len(framesByBits(records[:whole]...)))
	}
}

func TestUnframeOfNothing(t *testing.T) {
	wantRecords(t, "a file of nothing", "", nil, 0)
}

func TestUnframeAtTheLimit(t *testing.T) {
	d := draw(6)
	// Three frames of 9006, 9006 and 1988 bytes are 20000.
	records := []string{d.text(impl.MaxRecord), d.text(impl.MaxRecord), d.text(1982)}
	file := framesByBits(records...)
	if len(file) != impl.MaxText {
		t.Fatalf("the file has %d bytes", len(file))
	}
	wantRecords(t, "a file of MaxText bytes", file, records, impl.MaxText)
	wantRecords(t, "one of a byte less", file[:impl.MaxText-1], records[:2], 18012)
	wantRecords(t, "a byte too many", file+"\x00", nil, 0)
	wantRecords(t, "a frame too many", file+frameByBits("one"), nil, 0)
	longer := framesByBits(records[0], records[1], d.text(1983))
	if len(longer) != impl.MaxText+1 {
		t.Fatalf("the file has %d bytes", len(longer))
	}
	wantRecords(t, "whole frames of MaxText + 1 bytes", longer, nil, 0)
	wantRecords(t, "twice as much", file+file, nil, 0)
}

func TestUnframeOfManySmallFrames(t *testing.T) {
	records := strings.Split(strings.Repeat("a,", 3332)+"a", ",")
	file := framesByBits(records...)
	if len(file) != impl.MaxText-2 {
		t.Fatalf("the file has %d bytes", len(file))
	}
	wantRecords(t, "small frames", file, records, len(file))
	wantRecords(t, "small frames and bytes behind", file+"\x01a", records, len(file))
	wantRecords(t, "small frames and too many bytes", file+"\x01ab", nil, 0)
}

func TestBytesBehindTheLastFrame(t *testing.T) {
	d := draw(7)
	records := []string{"one", d.text(200)}
	file := framesByBits(records...)
	for _, behind := range []string{
		"\x00", "\x01", "\x80", "\xff", "one", "\x00\x00\x00\x00\x00\x00\x00", strings.Repeat("\xff", 40),
		"\x00\xff\xff\xff\xff", "\x00" + frameByBits("two"), "\xff" + frameByBits("two"), "\x80" + frameByBits("two"),
		frameByBits("two")[1:], "two", sealedByBits("two"), strings.Repeat("\x80", 200), d.text(3),
	} {
		wantRecords(t, "bytes behind the last", file+behind, records, len(file))
		wantRecords(t, "bytes that are no frame", behind, nil, 0)
	}
}

func TestAFrameWithAByteTurned(t *testing.T) {
	d := draw(8)
	records := []string{"one", d.text(130), "\x00\x00\x00", d.text(127), d.text(128), "z"}
	file := framesByBits(records...)
	end := 0
	for i, text := range records {
		start := end
		end += len(frameByBits(text))
		for at := start; at < end; at++ {
			for bits := 1; bits < 256; bits++ {
				wantRecords(t, "a byte turned", turned(file, at, byte(bits)), records[:i], start)
			}
		}
	}
}

func TestALongFrameWithAByteTurned(t *testing.T) {
	d := draw(9)
	records := []string{"one", d.text(impl.MaxRecord), "two"}
	file := framesByBits(records...)
	for _, at := range []int{8, 9, 10, 11, 12, 13, 14, 15, 5000, 9012, 9013} {
		for bit := range 8 {
			wantRecords(t, "a byte of a long frame turned", turned(file, at, byte(1)<<bit), records[:1], 8)
		}
	}
	for range 200 {
		at := 8 + d.below(impl.MaxRecord+6)
		wantRecords(t, "a byte of a long frame turned", turned(file, at, byte(1+d.below(255))), records[:1], 8)
	}
}

func TestLengthsThatAreNone(t *testing.T) {
	d := draw(10)
	sum := headByBits("one")[1:]
	long := d.text(impl.MaxRecord + 1)
	longest := d.text(16383)
	twoBytes := d.text(128)
	for what, bad := range map[string]string{
		"a longer form of 3":          "\x83\x00" + sum + "one",
		"a yet longer form of 3":      "\x83\x80\x00" + sum + "one",
		"a longer form of 128":        "\x80\x81\x00" + frameByBits(twoBytes)[2:],
		"a length of 0":               "\x00\xff\xff\xff\xff",
		"a length of 0 and a sum 0":   "\x00\x00\x00\x00\x00",
		"a longer form of 0":          "\x80\x00\xff\xff\xff\xff",
		"one past MaxRecord":          frameByBits(long),
		"two past MaxRecord":          frameByBits(long + "a"),
		"far past MaxRecord":          frameByBits(longest),
		"MaxNumber":                   "\x80\x94\xeb\xdc\x03" + sum + "one",
		"past MaxNumber":              "\x81\x94\xeb\xdc\x03" + sum + "one",
		"past 63 bits":                strings.Repeat("\xff", 9) + "\x01" + sum + "one",
		"3 and a great one past bits": "\x83" + strings.Repeat("\x80", 9) + "\x01" + sum + "one",
		"no end":                      strings.Repeat("\x83", 50),
		"more than there is":          "\x04" + sum + "one",
		"much more than there is":     "\xa8\x46" + sum + "one",
	} {
		wantRecords(t, what, bad, nil, 0)
		wantRecords(t, what+", behind a frame", frameByBits("two")+bad, []string{"two"}, 8)
		wantRecords(t, what+", ahead of frames", bad+framesByBits("two", "six"), nil, 0)
	}
	wantRecords(t, "a length of which a beginning stands", frameByBits(twoBytes)[:1], nil, 0)
}

func TestSumsThatAreNone(t *testing.T) {
	f := frameByBits("one")
	sum := f[1:5]
	for what, bad := range map[string]string{
		"the lowest first":      "\x03" + sum[3:] + sum[2:3] + sum[1:2] + sum[:1] + "one",
		"the sum behind":        "\x03one" + sum,
		"the sum of nothing":    "\x03\xff\xff\xff\xffone",
		"no sum":                "\x03one",
		"the sum of length too": "\x03" + headByBits("\x03one")[1:] + "one",
		"the sum of another":    "\x03" + headByBits("two")[1:] + "one",
		"the sum alone":         f[:5],
	} {
		wantRecords(t, what, bad, nil, 0)
		wantRecords(t, what+", behind a frame", f+bad, []string{"one"}, 8)
	}
}

// A sum of 0 stays 0 over noughts. So a frame of such a record is whole, whatever noughts are behind it.
func TestARecordWhoseSumIsNought(t *testing.T) {
	short, long := "\xff\xff\xff\xff", "\xff\xff\xff\xff\x00"
	wantRecords(t, "a sum of 0", framesByBits(short, long, short), []string{short, long, short}, 28)
	wantRecords(t, "noughts behind", frameByBits(short)+"\x00", []string{short}, 9)
}

func TestUnframeBeginsAtTheBeginning(t *testing.T) {
	f := frameByBits("one")
	for at := 1; at < len(f); at++ {
		wantRecords(t, "the end of a frame, and frames", f[at:]+f+f, nil, 0)
	}
	inner := framesByBits("two", "six")
	wantRecords(t, "frames in a record", frameByBits(inner)+f, []string{inner, "one"}, len(frameByBits(inner))+8)
	// What stands in a record is no frame of the file, though the one around it is torn.
	wantRecords(t, "frames in a torn record", frameByBits(inner + "a")[:5+len(inner)], nil, 0)
}

// drawnFile has whole frames, and now and then something else among them.
func (d *draw) drawnFile() string {
	file := ""
	for range d.below(8) {
		f := frameByBits(d.text(1 + d.below(20)))
		switch d.below(12) {
		case 0:
			f = f[:d.below(len(f))]
		case 1:
			f = turned(f, d.below(len(f)), byte(1+d.below(255)))
		case 2:
			f = d.text(d.below(12))
		case 3:
			f = frameByBits(d.text(120 + d.below(20)))
		case 4:
			f = frameByBits(strings.Repeat("\xff", 1+d.below(5)) + strings.Repeat("\x00", d.below(4)))
		}
		file += f
	}
	return file
}

func TestUnframeOfDrawnFiles(t *testing.T) {
	d := draw(11)
	for range 3000 {
		file := d.drawnFile()
		want, end := plainUnframe(file)
		if records, at := impl.Unframe(file); !slices.Equal(records, want) || at != end {
			t.Fatalf("Unframe(%q) = %q, %d, want %q, %d", file, records, at, want, end)
		}
	}
}

// What comes back, framed anew, is the file up to the place that is told.
func TestRecordsAreFramedAnew(t *testing.T) {
	d := draw(12)
	for range 500 {
		file := d.drawnFile()
		records, at := impl.Unframe(file)
		again := ""
		for _, text := range records {
			again += framed(t, text)
		}
		if at < 0 || at > len(file) || again != file[:at] {
			t.Fatalf("Unframe(%q) = %q, %d: they are the records of %q", file, records, at, again)
		}
		wantRecords(t, "the whole ones alone", again, records, at)
	}
}

func TestFramesWhenThePowerGoes(t *testing.T) {
	records := []string{"one", drawn(13, 140), "\x00\xff"}
	var list []impl.Act
	for _, text := range records {
		list = append(list, add("log", framed(t, text)), act(impl.ActKeep, "log"))
	}
	for whole := range len(list) + 1 {
		for left := range len(framesByBits(records...)) + 1 {
			d, ok := impl.CutActs(impl.Disk{}, list, whole, []int{left})
			if !ok {
				t.Fatalf("the power can't go behind %d acts", whole)
			}
			file, _ := impl.FileAt(d, "log")
			got, _ := impl.Unframe(file)
			if len(got) < whole/2 || len(got) > (whole+1)/2 || !slices.Equal(got, records[:len(got)]) {
				t.Fatalf("behind %d acts, with %d bytes left, there are %d records", whole, left, len(got))
			}
		}
	}
}

func TestFramesAreNewMemory(t *testing.T) {
	for _, text := range []string{"a record", drawn(14, 200), drawn(15, impl.MaxRecord)} {
		f := framed(t, text)
		if within(f, text) || within(text, f) {
			t.Error("Frame shares memory with its argument")
		}
		file := f + f
		records, _ := impl.Unframe(file)
		for _, record := range records {
			if within(record, file) {
				t.Error("Unframe answers a piece of its argument")
			}
		}
		if len(records) != 2 {
			t.Errorf("%d records come back of 2", len(records))
		}
	}
	file := framesByBits("one", "two")
	first, _ := impl.Unframe(file)
	for i := range first {
		first[i] = "spoilt"
	}
	_ = append(first, "behind")
	wantRecords(t, "behind a spoilt answer", file, []string{"one", "two"}, 16)
}

func TestFramesWriteIntoNoArgument(t *testing.T) {
	for _, text := range []string{"one", framesByBits("one", "two") + "\x01", drawn(16, impl.MaxRecord), drawn(17, impl.MaxText+1)} {
		room := []byte(text + "behind")
		seen := unsafe.String(&room[0], len(text))
		impl.Frame(seen)
		impl.Unframe(seen)
		if string(room) != text+"behind" {
			t.Errorf("an argument of %d bytes, or what is behind it, is written into", len(text))
		}
	}
}

func TestUnframeOfAnyBytes(t *testing.T) {
	d := draw(18)
	for range 20000 {
		text := d.text(d.below(12))
		want, end := plainUnframe(text)
		wantRecords(t, "drawn bytes", text, want, end)
	}
	for _, b := range []string{"\x00", "\x01", "\x7f", "\x80", "\xff"} {
		for _, length := range []int{1, 5, 6, 7, 9, 10, 11, 64, impl.MaxText, math.MaxUint16} {
			wantRecords(t, "one byte again and again", strings.Repeat(b, length), nil, 0)
		}
	}
}
