package tests

import (
	"math"
	"slices"
	"strconv"
	"strings"
	"testing"
	"unsafe"

	"loop.example/g00130/impl"
)

// everyByte has each of the 256 bytes once.
func everyByte() string {
	out := make([]byte, 256)
	for i := range out {
		out[i] = byte(i)
	}
	return string(out)
}

// numbersOfNote are the numbers around which the forms of VarText and Decimal change.
func numbersOfNote() []int {
	list := []int{0, 1, 9, 10, 99, 100, impl.MaxNumber - 1, impl.MaxNumber}
	for power := 128; power < impl.MaxNumber; power *= 128 {
		list = append(list, power-1, power, power+1)
	}
	for n := 7; n < impl.MaxNumber; n = n*3 + 1 {
		list = append(list, n)
	}
	return list
}

func wantVar(t *testing.T, text string, at, n, behind int) {
	t.Helper()
	if gotN, gotBehind, ok := impl.ReadVar(text, at); !ok || gotN != n || gotBehind != behind {
		t.Errorf("ReadVar(%q, %d) = %d, %d, %v; want %d, %d, true", text, at, gotN, gotBehind, ok, n, behind)
	}
}

func wantNoVar(t *testing.T, text string, at int) {
	t.Helper()
	if n, behind, ok := impl.ReadVar(text, at); ok || n != 0 || behind != 0 {
		t.Errorf("ReadVar(%q, %d) = %d, %d, %v; want 0, 0, false", text, at, n, behind, ok)
	}
}

func TestVarTextWrites(t *testing.T) {
	for _, c := range []struct {
		n    int
		text string
	}{
		{0, "\x00"},
		{1, "\x01"},
		{127, "\x7f"},
		{128, "\x80\x01"},
		{129, "\x81\x01"},
		{255, "\xff\x01"},
		{256, "\x80\x02"},
		{300, "\xac\x02"},
		{16383, "\xff\x7f"},
		{16384, "\x80\x80\x01"},
		{1<<28 - 1, "\xff\xff\xff\x7f"},
		{1 << 28, "\x80\x80\x80\x80\x01"},
		{impl.MaxNumber, "\x80\x94\xeb\xdc\x03"},
	} {
		if text, ok := impl.VarText(c.n); !ok || text != c.text {
			t.Errorf("VarText(%d) = %q, %v; want %q, true", c.n, text, ok, c.text)
		}
	}
}

func TestVarTextRefuses(t *testing.T) {
	for _, n := range []int{-1, -128, math.MinInt, impl.MaxNumber + 1, math.MaxInt} {
		if text, ok := impl.VarText(n); ok || text != "" {
			t.Errorf("VarText(%d) = %q, %v; want nothing, false", n, text, ok)
		}
	}
}

func TestVarTextIsReadBack(t *testing.T) {
	list := numbersOfNote()
	for n := range 40000 {
		list = append(list, n)
	}
	for _, n := range list {
		text, ok := impl.VarText(n)
		if !ok {
			t.Fatalf("VarText(%d) is false", n)
		}
		wantVar(t, text, 0, n, len(text))
		wantVar(t, "\xff"+text+"\x81", 1, n, 1+len(text))
		for cut := range len(text) {
			wantNoVar(t, text[:cut], 0)
		}
	}
}

// Of all texts of up to three bytes just those that begin with a VarText are read.
func TestReadVarReadsNothingElse(t *testing.T) {
	known := map[string]int{}
	for n := range 1 << 21 {
		text, _ := impl.VarText(n)
		known[text] = n + 1
	}
	check := func(text string) {
		for end := 1; end <= len(text); end++ {
			if n := known[text[:end]]; n > 0 {
				wantVar(t, text, 0, n-1, end)
				return
			}
		}
		wantNoVar(t, text, 0)
	}
	check("")
	edges := []byte{0, 1, 2, 63, 64, 126, 127, 128, 129, 191, 192, 254, 255}
	for a := range 256 {
		check(string([]byte{byte(a)}))
		for b := range 256 {
			check(string([]byte{byte(a), byte(b)}))
			for _, c := range edges {
				check(string([]byte{byte(a), byte(b), c}))
			}
		}
	}
}

func TestReadVarRefusesLongerForms(t *testing.T) {
	for _, text := range []string{
		"\x80\x00",
		"\xff\x00",
		"\x80\x80\x00",
		"\xac\x82\x00",
		"\x80\x94\xeb\xdc\x83\x00",
		"\xac\x82\x80\x80\x00",
		"\x81\x80\x80\x80\x80\x00",
		"\x81" + strings.Repeat("\x80", 8) + "\x00",
		"\x81" + strings.Repeat("\x80", 30) + "\x00",
		strings.Repeat("\x80", 100) + "\x00",
	} {
		wantNoVar(t, text, 0)
		wantNoVar(t, text+"\x01", 0)
		wantNoVar(t, "\x01"+text, 1)
	}
}

func TestReadVarRefusesTooGreatNumbers(t *testing.T) {
	for _, text := range []string{
		"\x81\x94\xeb\xdc\x03",
		"\x80\x95\xeb\xdc\x03",
		"\x80\x94\xeb\xdc\x04",
		"\xff\xff\xff\xff\x03",
		"\xff\xff\xff\xff\x0f",
		"\xff\xff\xff\xff\x7f",
		"\x80\x94\xeb\xdc\x83\x01",
		"\x80\x80\x80\x80\x80\x01",
	} {
		wantNoVar(t, text, 0)
	}
	// Their worth passes the 64 bits of an int: 2^63, 2^70 and so on.
	for length := range 40 {
		for _, last := range []string{"\x01", "\x02", "\x7f"} {
			text := strings.Repeat("\x80", 5+length) + last
			wantNoVar(t, text, 0)
			wantNoVar(t, "\x85"+text, 0)
			wantNoVar(t, strings.Repeat("\xff", 5+length)+last, 0)
		}
	}
}

func TestReadVarPlaces(t *testing.T) {
	text := "\x05\xac\x02\x07"
	wantVar(t, text, 0, 5, 1)
	wantVar(t, text, 1, 300, 3)
	wantVar(t, text, 2, 2, 3)
	wantVar(t, text, 3, 7, 4)
	for _, at := range []int{-1, -4, math.MinInt, len(text), len(text) + 1, math.MaxInt} {
		wantNoVar(t, text, at)
	}
	for _, at := range []int{-1, 0, 1} {
		wantNoVar(t, "", at)
	}
}

func TestReadVarRefusesEarlyEnds(t *testing.T) {
	for _, text := range []string{"", "\x80", "\xac", "\xff\xff", "\x80\x94\xeb\xdc", "\x80\x80\x80\x80\x80"} {
		wantNoVar(t, text, 0)
		wantNoVar(t, "\x00"+text, 1)
	}
}

func wantShort(t *testing.T, text string, at int, s string, behind int) {
	t.Helper()
	if got, gotBehind, ok := impl.ReadShort(text, at); !ok || got != s || gotBehind != behind {
		t.Errorf("ReadShort of %d bytes at %d = %d bytes, %d, %v; want %d bytes, %d, true", len(text), at, len(got), gotBehind, ok, len(s), behind)
	}
}

func wantNoShort(t *testing.T, text string, at int) {
	t.Helper()
	if s, behind, ok := impl.ReadShort(text, at); ok || s != "" || behind != 0 {
		t.Errorf("ReadShort of %d bytes at %d = %d bytes, %d, %v; want nothing, 0, false", len(text), at, len(s), behind, ok)
	}
}

func TestShortTextWrites(t *testing.T) {
	for _, c := range []struct{ s, text string }{
		{"", "\x00"},
		{"a", "\x01a"},
		{"\x00\xff", "\x02\x00\xff"},
		{strings.Repeat("x", 127), "\x7f" + strings.Repeat("x", 127)},
		{strings.Repeat("x", 128), "\x80\x01" + strings.Repeat("x", 128)},
		{strings.Repeat("x", impl.MaxText), "\xa0\x9c\x01" + strings.Repeat("x", impl.MaxText)},
	} {
		if text, ok := impl.ShortText(c.s); !ok || text != c.text {
			t.Errorf("ShortText of %d bytes: %d bytes, %v; want %d bytes, true", len(c.s), len(text), ok, len(c.text))
		}
	}
	if text, ok := impl.ShortText(strings.Repeat("x", impl.MaxText+1)); ok || text != "" {
		t.Errorf("ShortText of MaxText + 1 bytes: %d bytes, %v; want nothing, false", len(text), ok)
	}
}

func TestShortTextIsReadBack(t *testing.T) {
	long := strings.Repeat(everyByte(), impl.MaxText/256+1)
	for _, length := range []int{0, 1, 2, 126, 127, 128, 129, 256, 16383, 16384, impl.MaxText - 1, impl.MaxText} {
		s := long[:length]
		text, ok := impl.ShortText(s)
		if !ok {
			t.Fatalf("ShortText of %d bytes is false", length)
		}
		wantShort(t, text, 0, s, len(text))
		wantShort(t, "\x80\x80"+text+"more", 2, s, 2+len(text))
		wantNoShort(t, text[:len(text)-1], 0)
		wantNoShort(t, "\x00"+text[:len(text)-1], 1)
	}
}

func TestReadShortRefuses(t *testing.T) {
	for _, text := range []string{
		"",
		"\x01",
		"\x05abcd",
		"\x80\x01" + strings.Repeat("x", 127),
		"\x80",
		"\x80\x00",
		"\x81\x00a",
		"\x83\x80\x00abc",
		"\xa1\x9c\x01" + strings.Repeat("x", impl.MaxText+1), // one more than MaxText
		"\xff\xff\x7f" + strings.Repeat("x", 40000),
		"\x80\x94\xeb\xdc\x03abc", // MaxNumber
		"\x81\x94\xeb\xdc\x03abc",
	} {
		wantNoShort(t, text, 0)
		wantNoShort(t, "\x01"+text, 1)
	}
	text := "\x02ab\x00"
	wantShort(t, text, 0, "ab", 3)
	wantShort(t, text, 3, "", 4)
	for _, at := range []int{-1, math.MinInt, 4, 5, math.MaxInt} {
		wantNoShort(t, text, at)
	}
}

func TestHexOfEveryByte(t *testing.T) {
	const figures = "0123456789abcdef"
	for c := range 256 {
		text := string([]byte{byte(c)})
		want := figures[c/16:c/16+1] + figures[c%16:c%16+1]
		hex, ok := impl.Hex(text)
		if !ok || hex != want {
			t.Errorf("Hex(%q) = %q, %v; want %q, true", text, hex, ok, want)
		}
		if back, ok := impl.Unhex(want); !ok || back != text {
			t.Errorf("Unhex(%q) = %q, %v; want %q, true", want, back, ok, text)
		}
	}
}

func TestHexIsReadBack(t *testing.T) {
	long := strings.Repeat(everyByte(), impl.MaxText/256+1)
	for _, length := range []int{0, 1, 2, 3, 256, impl.MaxText - 1, impl.MaxText} {
		text := long[:length]
		hex, ok := impl.Hex(text)
		if !ok || len(hex) != 2*length {
			t.Fatalf("Hex of %d bytes: %d bytes, %v", length, len(hex), ok)
		}
		if back, ok := impl.Unhex(hex); !ok || back != text {
			t.Errorf("Unhex of Hex of %d bytes: %d bytes, %v", length, len(back), ok)
		}
	}
}

func TestHexLimits(t *testing.T) {
	if hex, ok := impl.Hex(strings.Repeat("x", impl.MaxText+1)); ok || hex != "" {
		t.Errorf("Hex of MaxText + 1 bytes: %d bytes, %v; want nothing, false", len(hex), ok)
	}
	for _, length := range []int{2*impl.MaxText + 1, 2*impl.MaxText + 2} {
		if text, ok := impl.Unhex(strings.Repeat("0", length)); ok || text != "" {
			t.Errorf("Unhex of %d figures: %d bytes, %v; want nothing, false", length, len(text), ok)
		}
	}
}

func TestUnhexRefuses(t *testing.T) {
	refused := func(text string) {
		if got, ok := impl.Unhex(text); ok || got != "" {
			t.Errorf("Unhex(%q) = %q, %v; want nothing, false", text, got, ok)
		}
	}
	for c := range 256 {
		if '0' <= c && c <= '9' || 'a' <= c && c <= 'f' {
			continue
		}
		bad := string([]byte{byte(c)})
		refused(bad + "0")
		refused("0" + bad)
		refused("00" + bad + "0")
		refused("000" + bad)
		refused(bad + "000")
		refused("0" + bad + "00")
	}
	for _, text := range []string{"0", "f", "g", "000", "abc", "12345", "AB", "0A", "0x12", " 00", "00 "} {
		refused(text)
	}
}

func TestDecimalOfEveryKind(t *testing.T) {
	for _, c := range []struct {
		n    int
		text string
	}{
		{0, "0"},
		{7, "7"},
		{-7, "-7"},
		{10, "10"},
		{-10, "-10"},
		{100200, "100200"},
		{impl.MaxNumber, "1000000000"},
		{impl.MaxNumber + 1, "1000000001"},
		{-impl.MaxNumber, "-1000000000"},
		{math.MaxInt, "9223372036854775807"},
		{math.MinInt, "-9223372036854775808"},
		{math.MinInt + 1, "-9223372036854775807"},
	} {
		if text := impl.Decimal(c.n); text != c.text {
			t.Errorf("Decimal(%d) = %q; want %q", c.n, text, c.text)
		}
	}
}

func TestDecimalIsReadBack(t *testing.T) {
	list := numbersOfNote()
	for n := range 20000 {
		list = append(list, n)
	}
	for _, n := range list {
		if back, ok := impl.ReadDecimal(impl.Decimal(n)); !ok || back != n {
			t.Errorf("ReadDecimal of Decimal(%d) = %d, %v", n, back, ok)
		}
	}
}

func wantNoDecimal(t *testing.T, text string) {
	t.Helper()
	if n, ok := impl.ReadDecimal(text); ok || n != 0 {
		t.Errorf("ReadDecimal(%q) = %d, %v; want 0, false", text, n, ok)
	}
}

func TestReadDecimalRefuses(t *testing.T) {
	for _, n := range []int{-1, -10, impl.MaxNumber + 1, 10 * impl.MaxNumber, math.MinInt, math.MaxInt} {
		wantNoDecimal(t, strconv.Itoa(n))
	}
	for _, text := range []string{
		"", "00", "01", "007", "0000000001", "01000000000",
		"+", "-", "+0", "-0", "+1", "-1", "--1", "1-", "1+",
		" ", " 1", "1 ", "1 2", "1\n", "1.0", "1e3", "0x1", "1_000", "a", "1a", "a1", "٣",
		"18446744073709551616", "18446744073709551617", // 2^64 and one more
		"100000000000000000000000000000000000001",
		strings.Repeat("9", 5000), strings.Repeat("0", 5000),
	} {
		wantNoDecimal(t, text)
	}
	for c := range 256 {
		if '0' <= c && c <= '9' {
			continue
		}
		other := string([]byte{byte(c)})
		wantNoDecimal(t, other)
		wantNoDecimal(t, other+"1")
		wantNoDecimal(t, "1"+other)
		wantNoDecimal(t, "1"+other+"1")
	}
}

func wantParts(t *testing.T, line string, want ...string) {
	t.Helper()
	if parts, ok := impl.PartsOf(line); !ok || !slices.Equal(parts, want) {
		t.Errorf("PartsOf(%q) = %q, %v; want %q, true", line, parts, ok, want)
	}
}

func wantNoParts(t *testing.T, line string) {
	t.Helper()
	if parts, ok := impl.PartsOf(line); ok || len(parts) != 0 {
		t.Errorf("PartsOf(%q) = %q, %v; want nothing, false", line, parts, ok)
	}
}

func TestPartsOfBlanks(t *testing.T) {
	wantParts(t, "")
	wantParts(t, " ")
	wantParts(t, strings.Repeat(" ", impl.MaxWords))
	wantParts(t, "a", "a")
	wantParts(t, "tick 1", "tick", "1")
	wantParts(t, "  tick 1", "tick", "1")
	wantParts(t, "tick 1   ", "tick", "1")
	wantParts(t, "tick     1", "tick", "1")
	wantParts(t, "   add  1   2    3 ", "add", "1", "2", "3")
	wantParts(t, "same same", "same", "same")
}

func TestPartsOfLimits(t *testing.T) {
	long := strings.Repeat("x", impl.MaxWords)
	wantParts(t, long, long)
	wantNoParts(t, long+"x")
	wantNoParts(t, long+" ")
	wantNoParts(t, strings.Repeat(" ", impl.MaxWords+1))
	ten := []string{"a", "b", "c", "d", "e", "f", "g", "h", "i", "j"}
	line := strings.Join(ten, "  ")
	wantParts(t, line, ten...)
	wantParts(t, " "+line+" ", ten...)
	wantNoParts(t, line+" k")
	wantNoParts(t, strings.Repeat("y ", 300))
}

func TestPartsOfBytes(t *testing.T) {
	for c := range 256 {
		text := string([]byte{byte(c)})
		switch {
		case c == 32:
			wantParts(t, "a"+text+"b", "a", "b")
		case c > 32 && c < 127:
			wantParts(t, text, text)
			wantParts(t, "a"+text+"b", "a"+text+"b")
		default:
			wantNoParts(t, text)
			wantNoParts(t, "a"+text+"b")
			wantNoParts(t, text+" a")
			wantNoParts(t, "a "+text)
		}
	}
}

// sharesMemory tells whether part, which is not empty, lies within the bytes of whole.
func sharesMemory(whole, part string) bool {
	from := uintptr(unsafe.Pointer(unsafe.StringData(whole)))
	at := uintptr(unsafe.Pointer(unsafe.StringData(part)))
	return at >= from && at < from+uintptr(len(whole))
}

func TestWordsAnswerWithNewMemory(t *testing.T) {
	text := "\x04long" + strings.Repeat("x", 50)
	if s, _, ok := impl.ReadShort(text, 0); !ok || sharesMemory(text, s) {
		t.Error("what ReadShort answers is a piece of its argument")
	}
	for _, line := range []string{"word", strings.Repeat("word ", 5)} {
		parts, ok := impl.PartsOf(line)
		if !ok {
			t.Errorf("PartsOf(%q) is false", line)
		}
		for _, part := range parts {
			if sharesMemory(line, part) {
				t.Errorf("a part of PartsOf(%q) is a piece of its argument", line)
			}
		}
	}
}
