package tests

import (
	"slices"
	"strings"
	"testing"

	"loop.example/g00130/impl"
)

// numberByWords has a number below 128 * 128 in bytes; a frame's number is never greater.
func numberByWords(n int) string {
	if n < 128 {
		return string([]byte{byte(n)})
	}
	return string([]byte{byte(n%128 + 128), byte(n / 128)})
}

// frameByWords asks for no limit, so that it also makes the frames that are none.
func frameByWords(text string) string {
	return numberByWords(len(text)) + inFourBytes(sumByBits(4294967295, text)) + text
}

func filedByWords(records ...string) string {
	file := ""
	for _, record := range records {
		file += frameByWords(record)
	}
	return file
}

// unframeByWords reads no number: it holds the frame of each length that a record may have against the file.
func unframeByWords(file string) ([]string, int) {
	records, at := []string{}, 0
	if len(file) > impl.MaxText {
		return records, at
	}
frames:
	for {
		rest := file[at:]
		for size := 1; size <= min(impl.MaxRecord, len(rest)); size++ {
			head := len(numberByWords(size)) + 4
			if head+size > len(rest) || !strings.HasPrefix(rest, numberByWords(size)) {
				continue
			}
			if text := rest[head : head+size]; rest[:head+size] == frameByWords(text) {
				records, at = append(records, text), at+head+size
				continue frames
			}
		}
		return records, at
	}
}

// drawnText has so many bytes, and is another one for each draw.
func (n *drawnNumber) text(size int) string {
	out := make([]byte, size)
	for i := range out {
		out[i] = byte(n.below(256))
	}
	return string(out)
}

func wantUnframed(t *testing.T, file string, want []string, end int, why string) {
	t.Helper()
	if got, at := impl.Unframe(file); !slices.Equal(got, want) || at != end {
		t.Errorf("Unframe of %d bytes (%s) = %d records %s, %d; want %d records, %d", len(file), why, len(got), tell(got), at, len(want), end)
	}
}

func TestFrameWrites(t *testing.T) {
	for text, want := range map[string]string{
		"a":         "\x01\x9f\x7e\x64\x96a",
		"123456789": "\x09\x78\xce\xaa\x89123456789",
		// Behind four bytes 255 the sum is 0.
		"\xff\xff\xff\xff": "\x04\x00\x00\x00\x00\xff\xff\xff\xff",
	} {
		if frame, ok := impl.Frame(text); !ok || frame != want {
			t.Errorf("Frame(%q) = %q, %v; want %q, true", text, frame, ok, want)
		}
	}
	for size, number := range map[int]string{
		1: "\x01", 2: "\x02", 126: "\x7e", 127: "\x7f",
		128: "\x80\x01", 129: "\x81\x01", 255: "\xff\x01", 256: "\x80\x02",
		8191: "\xff\x3f", 8192: "\x80\x40", 8999: "\xa7\x46", impl.MaxRecord: "\xa8\x46",
	} {
		draw := drawnNumber(size)
		text := draw.text(size)
		frame, ok := impl.Frame(text)
		if !ok || frame != number+inFourBytes(sumByBits(4294967295, text))+text {
			t.Errorf("Frame of %d bytes is not the number, the sum and the text, or %v: %s", size, ok, tell(frame))
		}
		wantUnframed(t, frame, []string{text}, len(frame), "one frame")
	}
}

func TestFrameOfEveryByte(t *testing.T) {
	for value := range 256 {
		text := string([]byte{byte(value)})
		frame, ok := impl.Frame(text)
		if !ok || frame != "\x01"+inFourBytes(sumByBits(4294967295, text))+text {
			t.Errorf("Frame(%q) = %q, %v", text, frame, ok)
		}
		wantUnframed(t, frame, []string{text}, 6, "one byte")
	}
}

func TestFrameRefuses(t *testing.T) {
	for _, size := range []int{0, impl.MaxRecord + 1, impl.MaxRecord + 2, impl.MaxText, impl.MaxText + 1, 3 * impl.MaxText} {
		if frame, ok := impl.Frame(strings.Repeat("r", size)); ok || frame != "" {
			t.Errorf("Frame of %d bytes = %d bytes, %v; want nothing, false", size, len(frame), ok)
		}
	}
}

func TestUnframeOfNothing(t *testing.T) {
	wantUnframed(t, "", nil, 0, "nothing")
}

func TestUnframeInOrder(t *testing.T) {
	wantUnframed(t, "\x01\x9f\x7e\x64\x96a\x09\x78\xce\xaa\x89123456789", []string{"a", "123456789"}, 20, "by hand")
	file, records := "", []string{}
	for _, text := range append(textsOfNote(), "a", "a", "abc") { // one may stand there more than once
		frame, ok := impl.Frame(text)
		if ok != (text != "") {
			t.Errorf("Frame(%q) = %q, %v", text, frame, ok)
		}
		if ok {
			file, records = file+frame, append(records, text)
		}
		wantUnframed(t, file, records, len(file), "one more frame")
	}
}

// A record that is itself frames is one record.
func TestUnframeOfFramesInAFrame(t *testing.T) {
	inner := filedByWords("a", "bc", "def")
	wantUnframed(t, filedByWords(inner), []string{inner}, len(inner)+5, "frames in a frame")
	wantUnframed(t, filedByWords("x", inner, "y"), []string{"x", inner, "y"}, len(inner)+5+12, "frames in a frame between two")
	torn := filedByWords("x", inner)
	wantUnframed(t, torn[:len(torn)-1], []string{"x"}, 6, "frames in a torn frame")
}

// recordsOfNote have numbers of one byte and of two.
func recordsOfNote() []string {
	draw := drawnNumber(4)
	records := []string{}
	for _, size := range []int{1, 3, 127, 128, 2, 129} {
		records = append(records, draw.text(size))
	}
	return records
}

// behindEach has the place behind each record's frame.
func behindEach(records []string) []int {
	places, at := []int{}, 0
	for _, record := range records {
		at += len(frameByWords(record))
		places = append(places, at)
	}
	return places
}

// wholeAt tells how many frames end at or ahead of a place, and where the last of these does.
func wholeAt(places []int, at int) (int, int) {
	count, end := 0, 0
	for _, place := range places {
		if place <= at {
			count, end = count+1, place
		}
	}
	return count, end
}

func TestUnframeOfACutFile(t *testing.T) {
	records := recordsOfNote()
	file, places := filedByWords(records...), behindEach(records)
	for cut := range len(file) + 1 {
		count, end := wholeAt(places, cut)
		wantUnframed(t, file[:cut], records[:count], end, "cut")
	}
}

func TestUnframeOfACutFileOfLongRecords(t *testing.T) {
	draw := drawnNumber(9)
	records := []string{draw.text(impl.MaxRecord), draw.text(impl.MaxRecord)}
	file, places := filedByWords(records...), behindEach(records)
	for _, start := range []int{0, places[0]} {
		for _, more := range []int{0, 1, 2, 3, 4, 5, 6, 7, 128, 5000, impl.MaxRecord, impl.MaxRecord + 4, impl.MaxRecord + 5, impl.MaxRecord + 6} {
			count, end := wholeAt(places, start+more)
			wantUnframed(t, file[:start+more], records[:count], end, "cut")
		}
	}
}

// What is missing is not at the end, so that frames would go on behind the torn one.
func TestUnframeOfATornFrameWithFramesBehind(t *testing.T) {
	behind := filedByWords("next", "and next")
	for _, record := range recordsOfNote() {
		frame := frameByWords(record)
		for size := 1; size < len(frame); size++ {
			torn := frame[:size] + behind
			want, end := unframeByWords(torn)
			wantUnframed(t, torn, want, end, "torn, with frames behind")
			want, end = unframeByWords("\x01\x9f\x7e\x64\x96a" + torn)
			wantUnframed(t, "\x01\x9f\x7e\x64\x96a"+torn, want, end, "torn between frames")
			if len(want) != 1 || end != 6 {
				t.Fatalf("a record of %d bytes, torn at %d: no torn frame stands there", len(record), size)
			}
		}
	}
}

func TestUnframeOfATurnedByte(t *testing.T) {
	records := recordsOfNote()
	file, places := filedByWords(records...), behindEach(records)
	for at := range len(file) {
		count, end := wholeAt(places, at)
		for other := 1; other < 256; other++ {
			turned := file[:at] + string([]byte{file[at] ^ byte(other)}) + file[at+1:]
			wantUnframed(t, turned, records[:count], end, "a byte turned")
		}
	}
}

func TestUnframeOfATurnedByteOfALongRecord(t *testing.T) {
	draw := drawnNumber(7)
	records := []string{"a", draw.text(impl.MaxRecord), "b"}
	file := filedByWords(records...)
	for _, at := range []int{6, 7, 8, 9, 10, 11, 12, 13, 140, 5000, 9010, 9011} {
		for bit := range 8 {
			turned := []byte(file)
			turned[at] ^= 1 << bit
			wantUnframed(t, string(turned), records[:1], 6, "a bit of a long frame turned")
		}
	}
}

// The number is not in the sum: behind four bytes 255 the sum is 0, and stays so with each byte 0. The
// number of such a frame may be turned so that a whole frame stands there, which is a record then.
func TestUnframeTakesAWholeFrameThatATurnMade(t *testing.T) {
	file := filedByWords("\xff\xff\xff\xff\x00")
	wantUnframed(t, file, []string{"\xff\xff\xff\xff\x00"}, 10, "as it was")
	wantUnframed(t, "\x04"+file[1:], []string{"\xff\xff\xff\xff"}, 9, "a whole frame, and a byte 0")
	wantUnframed(t, "\x04"+file[1:]+frameByWords("a"), []string{"\xff\xff\xff\xff"}, 9, "a whole frame, and none behind it")
	wantUnframed(t, "\x03"+file[1:], nil, 0, "none")
	wantUnframed(t, "\x06"+file[1:], nil, 0, "a byte less than the number tells")
	wantUnframed(t, "\x06"+file[1:]+"\x00", []string{"\xff\xff\xff\xff\x00\x00"}, 11, "a byte more")
}

// wrongFrames have texts and sums that fit, but a number that no frame has there.
func wrongFrames() map[string]string {
	sum := func(text string) string { return inFourBytes(sumByBits(4294967295, text)) }
	long := strings.Repeat("r", impl.MaxRecord+1)
	two := strings.Repeat("r", 128)
	return map[string]string{
		"1 in two bytes":                   "\x81\x00" + sum("a") + "a",
		"1 in three bytes":                 "\x81\x80\x00" + sum("a") + "a",
		"3 in two bytes":                   "\x83\x00" + sum("abc") + "abc",
		"127 in two bytes":                 "\xff\x00" + sum(two[:127]) + two[:127],
		"128 in three bytes":               "\x80\x81\x00" + sum(two) + two,
		"MaxRecord in three bytes":         "\xa8\xc6\x00" + sum(long[1:]) + long[1:],
		"1 in ten bytes":                   "\x81" + strings.Repeat("\x80", 8) + "\x00" + sum("a") + "a",
		"0":                                "\x00" + sum(""),
		"0, and the sum 0":                 "\x00\x00\x00\x00\x00",
		"0 in two bytes":                   "\x80\x00" + sum(""),
		"0 in three bytes":                 "\x80\x80\x00" + sum(""),
		"MaxRecord + 1":                    "\xa9\x46" + sum(long) + long,
		"MaxNumber":                        "\x80\x94\xeb\xdc\x03" + sum("a") + "a",
		"MaxNumber + 1":                    "\x81\x94\xeb\xdc\x03" + sum("a") + "a",
		"2^63 + 1":                         "\x81" + strings.Repeat("\x80", 8) + "\x01" + sum("a") + "a",
		"2^64 + 1":                         "\x81" + strings.Repeat("\x80", 8) + "\x02" + sum("a") + "a",
		"2^63 - 1":                         strings.Repeat("\xff", 8) + "\x7f" + sum("a") + "a",
		"a number without an end":          strings.Repeat("\x81", 40),
		"the lowest byte of the sum first": "\x01\x96\x64\x7e\x9fa",
		"the sum behind the text":          "\x01a\x9f\x7e\x64\x96",
		"the sum 0":                        "\x01\x00\x00\x00\x00a",
		"the sum of the number, too":       "\x01" + sum("\x01a") + "a",
		"the sum alone":                    sum("a") + "a",
	}
}

func TestUnframeOfWrongFrames(t *testing.T) {
	behind := filedByWords("next", "and next")
	for why, wrong := range wrongFrames() {
		if words, _ := unframeByWords(wrong + behind); len(words) > 0 {
			t.Fatalf("%s: a frame stands there", why)
		}
		wantUnframed(t, wrong, nil, 0, why)
		wantUnframed(t, wrong+behind, nil, 0, why+", frames behind")
		wantUnframed(t, behind+wrong, []string{"next", "and next"}, len(behind), why+", frames ahead")
		wantUnframed(t, behind+wrong+behind, []string{"next", "and next"}, len(behind), why+", frames around")
	}
}

// The sum is that of what is left, so that the number alone tells that it is not all.
func TestUnframeOfANumberOfMoreThanIsLeft(t *testing.T) {
	for _, size := range []int{1, 2, 3, 126, 127, 128, 129, 8998, 8999} {
		text := strings.Repeat("r", size)
		sum := inFourBytes(sumByBits(4294967295, text))
		for _, number := range []int{size + 1, size + 4, size + 5, impl.MaxRecord} {
			if number > impl.MaxRecord {
				continue
			}
			file := numberByWords(number) + sum + text
			wantUnframed(t, file, nil, 0, "a number of more than is left")
			wantUnframed(t, frameByWords("a")+file, []string{"a"}, 6, "a number of more than is left, behind a frame")
		}
	}
	for _, file := range []string{"\x01", "\x04", "\x01\x9f", "\x01\x9f\x7e\x64\x96", "\x01\xff\xff\xff\xff", "\x80", "\x80\x01", "\xff"} {
		wantUnframed(t, file, nil, 0, "no text")
	}
}

func TestUnframeLimits(t *testing.T) {
	draw := drawnNumber(2)
	records := []string{draw.text(impl.MaxRecord), draw.text(impl.MaxRecord), draw.text(1982)}
	full := filedByWords(records...)
	if len(full) != impl.MaxText {
		t.Fatalf("the full file has %d bytes", len(full))
	}
	wantUnframed(t, full, records, impl.MaxText, "MaxText bytes of frames")
	wantUnframed(t, full+"\x01", nil, 0, "a byte more")
	wantUnframed(t, full+frameByWords("a"), nil, 0, "a frame more")
	wantUnframed(t, frameByWords("a")+full, nil, 0, "a frame more ahead")
	short := filedByWords(records[0], records[1], records[2][1:])
	wantUnframed(t, short, []string{records[0], records[1], records[2][1:]}, impl.MaxText-1, "a byte less")
	wantUnframed(t, short+"\x01", []string{records[0], records[1], records[2][1:]}, impl.MaxText-1, "a torn byte in the end")
	wantUnframed(t, strings.Repeat("\x00", impl.MaxText), nil, 0, "MaxText bytes, no frame")
	long := frameByWords("a") + strings.Repeat("\x00", impl.MaxText-6)
	wantUnframed(t, long, []string{"a"}, 6, "a frame, and bytes up to MaxText")
	wantUnframed(t, long+"\x00", nil, 0, "a frame, and bytes up to one more")
	wantUnframed(t, strings.Repeat(frameByWords("a"), impl.MaxText), nil, 0, "far more")
}

func TestUnframeOfAsManyAsMayBe(t *testing.T) {
	records, file := []string{}, ""
	for i := range impl.MaxText / 6 {
		records = append(records, string([]byte{byte(i)}))
		file += frameByWords(records[i])
	}
	wantUnframed(t, file, records, 19998, "frames of one byte")
	wantUnframed(t, file+"\x01\x9f", records, 19998, "frames of one byte, and a torn one")
	wantUnframed(t, file+"\x01\x9f\x7e", nil, 0, "one byte more than MaxText")
}

// drawnFile has frames, and now and then something that is none, or a byte that is turned.
func (n *drawnNumber) file() string {
	file := ""
	for range n.below(6) {
		size := 1 + n.below(9)
		if n.below(4) == 0 {
			size = 120 + n.below(20)
		}
		frame := frameByWords(n.text(size))
		switch n.below(12) {
		case 0:
			frame = frame[:n.below(len(frame))]
		case 1:
			frame = n.text(n.below(9))
		case 2:
			frame = frameByWords("")
		}
		file += frame
	}
	if file != "" && n.below(3) == 0 {
		at := n.below(len(file))
		file = file[:at] + n.text(1) + file[at+1:]
	}
	return file
}

func TestUnframeOfDrawnFiles(t *testing.T) {
	draw, whole, torn := drawnNumber(1), 0, 0
	for range 4000 {
		file := draw.file()
		want, end := unframeByWords(file)
		wantUnframed(t, file, want, end, "drawn")
		if end == len(file) {
			whole++
		} else {
			torn++
		}
	}
	if whole < 500 || torn < 500 {
		t.Errorf("of the drawn files %d are whole, %d torn", whole, torn)
	}
}

func TestFramesAnswerWithNewMemory(t *testing.T) {
	text := strings.Repeat("web", 7)
	frame, _ := impl.Frame(text)
	again, _ := impl.Frame(text)
	if sharesMemory(frame, text) || sharesMemory(text, frame) || sharesMemory(frame, again) {
		t.Error("what Frame answers is no new memory")
	}
	file := filedByWords(text, text, "a", "a", strings.Repeat("r", impl.MaxRecord))
	records, _ := impl.Unframe(file)
	other, _ := impl.Unframe(file)
	if len(records) != 5 || len(other) != 5 {
		t.Fatalf("Unframe has %d and %d records; want 5", len(records), len(other))
	}
	for i, record := range records {
		if sharesMemory(file, record) {
			t.Errorf("record %d is a piece of the file", i)
		}
		for k, second := range append(slices.Clone(records[i+1:]), other...) {
			if sharesMemory(record, second) || sharesMemory(second, record) {
				t.Errorf("record %d and one %d behind it share memory", i, k+1)
			}
		}
	}
	records[0] = "?"
	if other[0] != text {
		t.Error("two answers of Unframe are one list")
	}
}
