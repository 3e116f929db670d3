package tests

import (
	"strings"
	"testing"

	"loop.example/g00130/impl"
)

// sumByBits follows the document's words, a halving at a time.
func sumByBits(sum uint32, text string) uint32 {
	for i := range len(text) {
		sum ^= uint32(text[i])
		for range 8 {
			odd := sum%2 == 1
			sum /= 2
			if odd {
				sum ^= 3558460437
			}
		}
	}
	return sum
}

// textsOfNote are texts of several lengths, whose bytes are drawn by a fixed rule.
func textsOfNote() []string {
	list := []string{"", "\x00", "\xff", "a", "abc", "123456789", "\x00\x00\x00\x00", "\xff\xff\xff\xff", everyByte()}
	drawn := uint32(1)
	for _, size := range []int{2, 4, 5, 31, 32, 33, 300} {
		text := make([]byte, size)
		for i := range text {
			drawn = drawn*1664525 + 1013904223
			text[i] = byte(drawn >> 24)
		}
		list = append(list, string(text))
	}
	return list
}

func startsOfNote() []uint32 {
	list := []uint32{0, 1, 2, 3558460437, 2147483647, 2147483648, 4294967294, 4294967295}
	for bit := range 32 {
		list = append(list, 1<<bit)
	}
	return list
}

func inFourBytes(sum uint32) string {
	return string([]byte{byte(sum >> 24), byte(sum >> 16), byte(sum >> 8), byte(sum)})
}

// The sum of "a", reckoned by hand: what stands behind the byte, and behind each of the eight halvings.
func TestSumByHand(t *testing.T) {
	trail := []uint32{
		0xffffff9e, // 0xffffffff, exclusive-or 0x61; it is even
		0x7fffffcf, // half of it; this is odd
		0x3fffffe7 ^ 0xd419cc15,
		0x75f319f9, // half of 0xebe633f2, which was even
		0x3af98cfc ^ 0xd419cc15,
		0x77702074 ^ 0xd419cc15, // half of 0xeee040e9
		0x51b4f630 ^ 0xd419cc15, // half of 0xa369ec61
		0x42d69d12 ^ 0xd419cc15, // half of 0x85ad3a25
		0x4b67a883 ^ 0xd419cc15, // half of 0x96cf5107
	}
	for i, before := range trail[:8] {
		want := before / 2
		if before%2 == 1 {
			want ^= 3558460437
		}
		if trail[i+1] != want {
			t.Fatalf("behind halving %d the trail has %#x; want %#x", i+1, trail[i+1], want)
		}
	}
	if sum := impl.SumOf("a"); sum != 0x9f7e6496 || sum != trail[8] {
		t.Errorf("SumOf(a) = %#x; want 0x9f7e6496", sum)
	}
	if sum := impl.SumOf("123456789"); sum != 0x78ceaa89 {
		t.Errorf("SumOf(123456789) = %#x; want 0x78ceaa89", sum)
	}
}

func TestSumOfNothing(t *testing.T) {
	if sum := impl.SumOf(""); sum != 4294967295 {
		t.Errorf("SumOf of nothing = %d", sum)
	}
	for _, start := range startsOfNote() {
		if sum := impl.SumMore(start, ""); sum != start {
			t.Errorf("SumMore(%d, nothing) = %d", start, sum)
		}
	}
}

func TestSumOfEveryByte(t *testing.T) {
	seen := map[uint32]int{}
	for value := range 256 {
		text := string([]byte{byte(value)})
		if sum, want := impl.SumOf(text), sumByBits(4294967295, text); sum != want {
			t.Errorf("SumOf(%q) = %d; want %d", text, sum, want)
		}
		for _, start := range startsOfNote() {
			if sum, want := impl.SumMore(start, text), sumByBits(start, text); sum != want {
				t.Errorf("SumMore(%d, %q) = %d; want %d", start, text, sum, want)
			}
		}
		seen[impl.SumOf(text)]++
	}
	if len(seen) != 256 {
		t.Errorf("the 256 bytes have %d sums", len(seen))
	}
}

func TestSumMoreGoesOn(t *testing.T) {
	for _, text := range textsOfNote() {
		whole := impl.SumOf(text)
		if want := sumByBits(4294967295, text); whole != want {
			t.Errorf("SumOf(%q) = %d; want %d", text, whole, want)
		}
		for parted := range len(text) + 1 {
			if sum := impl.SumMore(impl.SumOf(text[:parted]), text[parted:]); sum != whole {
				t.Errorf("SumMore of %q parted at %d = %d; want %d", text, parted, sum, whole)
			}
		}
		for _, start := range startsOfNote() {
			half := len(text) / 2
			sum := impl.SumMore(impl.SumMore(start, text[:half]), text[half:])
			if want := sumByBits(start, text); sum != want || impl.SumMore(start, text) != want {
				t.Errorf("SumMore(%d, %q) = %d, and %d in two parts; want %d", start, text, impl.SumMore(start, text), sum, want)
			}
		}
	}
}

func TestSumOfLongTexts(t *testing.T) {
	for _, size := range []int{impl.MaxText - 1, impl.MaxText, impl.MaxText + 1, 3*impl.MaxText + 7} {
		text := strings.Repeat(everyByte(), size/256+1)[:size]
		want := sumByBits(4294967295, text)
		if sum := impl.SumOf(text); sum != want {
			t.Errorf("SumOf of %d bytes = %d; want %d", size, sum, want)
		}
		for _, parted := range []int{0, 1, 255, size / 3, size - 1, size} {
			if sum := impl.SumMore(impl.SumOf(text[:parted]), text[parted:]); sum != want {
				t.Errorf("SumMore of %d bytes parted at %d = %d; want %d", size, parted, sum, want)
			}
		}
	}
}

func wantUnsealed(t *testing.T, text, want string) {
	t.Helper()
	if got, ok := impl.Unsealed(text); !ok || got != want {
		t.Errorf("Unsealed of %d bytes = %d bytes, %v; want the %d that were sealed, true", len(text), len(got), ok, len(want))
	}
}

func wantNotUnsealed(t *testing.T, text, why string) {
	t.Helper()
	if got, ok := impl.Unsealed(text); ok || got != "" {
		t.Errorf("Unsealed of %d bytes (%s) = %d bytes, %v; want nothing, false", len(text), why, len(got), ok)
	}
}

func TestSealedIsTheTextAndItsSum(t *testing.T) {
	if sealed, ok := impl.Sealed(""); !ok || sealed != "\xff\xff\xff\xff" {
		t.Errorf("Sealed of nothing = %q, %v", sealed, ok)
	}
	if sealed, ok := impl.Sealed("a"); !ok || sealed != "a\x9f\x7e\x64\x96" {
		t.Errorf("Sealed(a) = %q, %v", sealed, ok)
	}
	for _, text := range textsOfNote() {
		sealed, ok := impl.Sealed(text)
		if !ok || sealed != text+inFourBytes(impl.SumOf(text)) {
			t.Errorf("Sealed(%q) = %q, %v", text, sealed, ok)
		}
		wantUnsealed(t, sealed, text)
	}
}

func TestSealedLimits(t *testing.T) {
	for _, size := range []int{impl.MaxText - 1, impl.MaxText} {
		text := strings.Repeat("w", size)
		sealed, ok := impl.Sealed(text)
		if !ok || sealed != text+inFourBytes(impl.SumOf(text)) {
			t.Errorf("Sealed of %d bytes is not the text and its sum, or %v", size, ok)
		}
		wantUnsealed(t, sealed, text)
	}
	for _, size := range []int{impl.MaxText + 1, impl.MaxText + 4, impl.MaxText + 5, 2 * impl.MaxText} {
		text := strings.Repeat("w", size)
		if sealed, ok := impl.Sealed(text); ok || sealed != "" {
			t.Errorf("Sealed of %d bytes = %d bytes, %v; want nothing, false", size, len(sealed), ok)
		}
		wantNotUnsealed(t, text+inFourBytes(impl.SumOf(text)), "the sum of a text that is too long")
	}
}

func TestUnsealedRefusesShortTexts(t *testing.T) {
	for _, text := range []string{"", "\x00", "\xff", "\xff\xff", "\xff\xff\xff", "abc"} {
		wantNotUnsealed(t, text, "fewer than four")
	}
	for value := range 256 { // a lone byte, and the end of a sum without its beginning
		wantNotUnsealed(t, string([]byte{byte(value)}), "one")
		wantNotUnsealed(t, string([]byte{255, 255, 255, byte(value), 0}), "five")
	}
	wantNotUnsealed(t, "\x00\x00\x00\x00", "the sum 0 of nothing")
	wantUnsealed(t, "\xff\xff\xff\xff", "")
}

// A text with one byte turned, whichever, to whatever, the bytes of the sum too, is none that was sealed.
func TestUnsealedTellsATurnedByte(t *testing.T) {
	for _, text := range textsOfNote() {
		sealed, _ := impl.Sealed(text)
		for at := range len(sealed) {
			turned := []byte(sealed)
			for other := 1; other < 256; other++ {
				turned[at] = sealed[at] ^ byte(other)
				wantNotUnsealed(t, string(turned), "a byte turned")
			}
		}
	}
}

func TestUnsealedTellsATurnedByteOfALongText(t *testing.T) {
	text := strings.Repeat(everyByte(), impl.MaxText/256+1)[:impl.MaxText]
	sealed, _ := impl.Sealed(text)
	for _, at := range []int{0, 1, 255, 9999, 19998, 19999, 20000, 20001, 20002, 20003} {
		for bit := range 8 {
			turned := []byte(sealed)
			turned[at] ^= 1 << bit
			wantNotUnsealed(t, string(turned), "a bit turned")
		}
	}
}

func TestUnsealedWantsTheHighestByteFirst(t *testing.T) {
	for _, text := range []string{"a", "abc", "123456789", everyByte()} {
		sum := inFourBytes(impl.SumOf(text))
		for order := range 256 { // each row of four places, those with a place twice too
			other := string([]byte{sum[order/64], sum[order/16%4], sum[order/4%4], sum[order%4]})
			if other == sum {
				wantUnsealed(t, text+other, text)
			} else {
				wantNotUnsealed(t, text+other, "another order")
			}
		}
	}
}

// wantAsTold holds Unsealed against the document's words: some few texts have the sum of a longer one.
func wantAsTold(t *testing.T, text, why string) {
	t.Helper()
	size := len(text) - 4
	if size >= 0 && inFourBytes(sumByBits(4294967295, text[:size])) == text[size:] {
		wantUnsealed(t, text, text[:size])
	} else {
		wantNotUnsealed(t, text, why)
	}
}

func TestUnsealedTellsAnotherLength(t *testing.T) {
	for _, text := range textsOfNote() {
		sealed, _ := impl.Sealed(text)
		for value := range 256 {
			one := string([]byte{byte(value)})
			wantAsTold(t, text+one+sealed[len(text):], "a byte more behind the text")
			wantAsTold(t, one+sealed, "a byte more ahead")
			wantAsTold(t, sealed+one, "a byte more at the end")
		}
		wantAsTold(t, sealed[:len(sealed)-1], "a byte less at the end")
		wantAsTold(t, sealed[1:], "a byte less ahead")
	}
	sealed, _ := impl.Sealed("abc")
	for _, text := range []string{sealed + "\x00", sealed + "c", "a" + sealed, "abcc" + sealed[3:], sealed[:6], sealed[1:], "ab" + sealed[3:]} {
		wantNotUnsealed(t, text, "another length")
	}
	// Behind four bytes 255 the sum is 0, and a byte 0 leaves it there: both texts are sealed alike.
	wantUnsealed(t, "\xff\xff\xff\xff\x00\x00\x00\x00", "\xff\xff\xff\xff")
	wantUnsealed(t, "\xff\xff\xff\xff\x00\x00\x00\x00\x00", "\xff\xff\xff\xff\x00")
}

func TestSumsAnswerWithNewMemory(t *testing.T) {
	text := strings.Repeat("web", 7)
	sealed, _ := impl.Sealed(text)
	if sharesMemory(text, sealed) {
		t.Error("what Sealed answers is its argument")
	}
	if got, ok := impl.Unsealed(sealed); !ok || sharesMemory(sealed, got) {
		t.Error("what Unsealed answers is a piece of its argument")
	}
}
