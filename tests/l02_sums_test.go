package tests

import (
	"math"
	"testing"

	"loop.example/g00397/impl"
)

// Promise 2: A text with one byte turned is never Unsealed as sealed; SumMore goes on where SumOf stopped.

// plainSum is the document's rule, step by step.
func plainSum(sum uint32, text string) uint32 {
	for i := range len(text) {
		sum ^= uint32(text[i])
		for range 8 {
			odd := sum%2 == 1
			sum /= 2
			if odd {
				sum ^= 3558460437
			}
		}
	}
	return sum
}

// someSums are the ends, single bits, and some between.
func someSums() []uint32 {
	sums := []uint32{0, 1, 2, 0x0f, 0xf0, 0xff, 0x12345678, 0x7fffffff, 0x80000000, 3558460437, math.MaxUint32 - 1, math.MaxUint32}
	for bit := range 32 {
		sums = append(sums, 1<<bit, ^uint32(1<<bit))
	}
	return sums
}

func sumTexts() []string {
	return []string{"", "\x00", "\x00\x00\x00\x00", "\x01", "\x80", "\xff", "abc", "123456789", "\xff\xff\xff\xff", "\xfe é \U0010ffff", allBytes(256), allBytes(1000)}
}

func TestSumMoreOfKnownTexts(t *testing.T) {
	for _, c := range []struct {
		sum  uint32
		text string
		want uint32
	}{
		{0, "", 0},
		{1, "", 1},
		{math.MaxUint32, "", math.MaxUint32},
		{0, "\x00", 0},
		{0, "\x00\x00\x00", 0},
		{0, "\x01", 735957071},
		{0, "\x80", 3558460437}, // the highest bit comes down last, and is halved away once
		{0, "\xff", 2170173475},
		{0, "abc", 157603473},
		{0, "123456789", 2518010058},
		{1, "\x00", 735957071},
		{128, "\x00", 3558460437},
		{128, "\x80", 0},
		{256, "\x00", 1},
		{0x80000000, "\x00", 0x00800000},
		{0x80000000, "\x80", 0x00800000 ^ 3558460437},
		{math.MaxUint32, "\xff", 0x00ffffff},
	} {
		if got := impl.SumMore(c.sum, c.text); got != c.want {
			t.Errorf("SumMore(%d, %q) = %d; want %d", c.sum, c.text, got, c.want)
		}
	}
}

func TestSumOfKnownTexts(t *testing.T) {
	for _, c := range []struct {
		text string
		want uint32
	}{
		{"", 4294967295},
		{"\x00", 2175125468},
		{"\x01", 2859997075},
		{"\x80", 1438387145},
		{"\xff", 16777215},
		{"abc", 2815232641},
		{"123456789", ^uint32(0x87315576)}, // the check value of this polynomial, which is told with all bits turned
	} {
		if got := impl.SumOf(c.text); got != c.want {
			t.Errorf("SumOf(%q) = %d; want %d", c.text, got, c.want)
		}
	}
}

func TestSumMoreKeepsToTheRule(t *testing.T) {
	for _, sum := range someSums() {
		for b := range 256 {
			text := string([]byte{byte(b)})
			if got, want := impl.SumMore(sum, text), plainSum(sum, text); got != want {
				t.Errorf("SumMore(%d, %q) = %d; want %d", sum, text, got, want)
			}
		}
		for _, text := range sumTexts() {
			if got, want := impl.SumMore(sum, text), plainSum(sum, text); got != want {
				t.Errorf("SumMore(%d, %q) = %d; want %d", sum, cut(text), got, want)
			}
		}
	}
	for _, size := range []int{impl.MaxText - 1, impl.MaxText, impl.MaxText + 1, 3 * impl.MaxText} {
		text := allBytes(size)
		if got, want := impl.SumMore(7, text), plainSum(7, text); got != want {
			t.Errorf("SumMore of 7 and %d bytes = %d; want %d", size, got, want)
		}
		if got, want := impl.SumOf(text), plainSum(math.MaxUint32, text); got != want {
			t.Errorf("SumOf %d bytes = %d; want %d", size, got, want)
		}
	}
}

func TestSumMoreGoesOn(t *testing.T) {
	for _, text := range sumTexts() {
		for at := range len(text) + 1 {
			ahead, behind := text[:at], text[at:]
			if got, want := impl.SumMore(impl.SumOf(ahead), behind), impl.SumOf(text); got != want {
				t.Errorf("SumOf(%q) = %d, but in two pieces from %d on %d", cut(text), want, at, got)
			}
			for _, sum := range []uint32{0, 1, 0x80000000, 0xdeadbeef, math.MaxUint32} {
				if got, want := impl.SumMore(impl.SumMore(sum, ahead), behind), impl.SumMore(sum, text); got != want {
					t.Errorf("SumMore(%d, %q) = %d, but in two pieces from %d on %d", sum, cut(text), want, at, got)
				}
			}
		}
	}
	long := allBytes(impl.MaxText + 1)
	if impl.SumMore(impl.SumOf(long[:12345]), long[12345:]) != impl.SumOf(long) {
		t.Error("SumMore does not go on where SumOf of a long text stopped")
	}
}

func seals(t *testing.T, text string) string {
	t.Helper()
	s, ok := impl.Sealed(text)
	if !ok {
		t.Fatalf("Sealed of %d bytes is false", len(text))
	}
	return s
}

func opensAs(t *testing.T, sealed, text string) {
	t.Helper()
	if got, ok := impl.Unsealed(sealed); !ok || got != text {
		t.Errorf("Unsealed(%q) = %q, %v; want %q, true", cut(sealed), cut(got), ok, cut(text))
	}
}

func refusesSealed(t *testing.T, text string) {
	t.Helper()
	if got, ok := impl.Unsealed(text); ok || got != "" {
		t.Errorf("Unsealed(%q) = %q, %v; want \"\", false", cut(text), cut(got), ok)
	}
}

// highestFirst is a number in four bytes.
func highestFirst(n uint32) string {
	return string([]byte{byte(n / 16777216), byte(n / 65536 % 256), byte(n / 256 % 256), byte(n % 256)})
}

func TestSealedWrites(t *testing.T) {
	for _, c := range []struct{ text, sealed string }{
		{"", "\xff\xff\xff\xff"},
		{"\x00", "\x00\x81\xa5\xc7\xdc"},
		{"\x01", "\x01\xaa\x78\x17\x93"},
		{"\x80", "\x80\x55\xbc\x0b\xc9"},
		{"\xff", "\xff\x00\xff\xff\xff"},
		{"abc", "abc\xa7\xcd\x0a\x81"},
		{"123456789", "123456789\x78\xce\xaa\x89"},
	} {
		if got := seals(t, c.text); got != c.sealed {
			t.Errorf("Sealed(%q) = %q; want %q", c.text, got, c.sealed)
		}
		opensAs(t, c.sealed, c.text)
	}
	for _, text := range append(sumTexts(), allBytes(impl.MaxText-1), allBytes(impl.MaxText)) {
		if got, want := seals(t, text), text+highestFirst(plainSum(math.MaxUint32, text)); got != want {
			t.Errorf("Sealed(%q) ends in %q; want %q", cut(text), got[len(text):], want[len(text):])
		}
	}
	for _, size := range []int{impl.MaxText + 1, impl.MaxText + 4, 3 * impl.MaxText} {
		if got, ok := impl.Sealed(allBytes(size)); ok || got != "" {
			t.Errorf("Sealed of %d bytes = %q, %v; want \"\", false", size, cut(got), ok)
		}
	}
}

func TestSealedIsReadBack(t *testing.T) {
	for _, text := range append(sumTexts(), allBytes(impl.MaxText-1), allBytes(impl.MaxText)) {
		opensAs(t, seals(t, text), text)
	}
	// A sealed text is a text as any other.
	once := seals(t, "abc")
	opensAs(t, seals(t, once), once)
}

// turned puts another byte at one place.
func turned(text string, at, b int) string {
	return text[:at] + string([]byte{byte(b)}) + text[at+1:]
}

func TestOneByteTurnedIsNotUnsealed(t *testing.T) {
	texts := []string{"", "ab", "\x00\x00", "\x00\x00\x00", "abc", "\xff\xff\xff\xff", "\x00\x80\x01\x7f\xff", "123456789"}
	for b := range 256 {
		texts = append(texts, string([]byte{byte(b)}))
	}
	for _, text := range texts {
		sealed := seals(t, text)
		for at := range len(sealed) {
			for b := range 256 {
				if byte(b) != sealed[at] {
					refusesSealed(t, turned(sealed, at, b))
				}
			}
		}
	}
}

func TestOneByteOfALongTextTurned(t *testing.T) {
	long := seals(t, allBytes(impl.MaxText))
	for at := 0; at < len(long); at += 499 {
		for _, with := range []byte{1, 0x10, 0x80, 0xff} {
			refusesSealed(t, turned(long, at, int(long[at]^with)))
		}
	}
	for at := len(long) - 4; at < len(long); at++ {
		refusesSealed(t, turned(long, at, int(long[at]^1)))
	}
}

func TestEachTextOfTwoBytesTurned(t *testing.T) {
	for first := range 256 {
		for _, second := range []int{0, 1, 127, 128, 255} {
			sealed := seals(t, string([]byte{byte(first), byte(second)}))
			for at := range len(sealed) {
				for bit := range 8 {
					refusesSealed(t, turned(sealed, at, int(sealed[at]^1<<bit)))
				}
			}
		}
	}
}

func TestUnsealedOfShortTexts(t *testing.T) {
	for _, text := range []string{"", "\x00", "\xff", "\xff\xff", "\x00\x00\x00", "\xff\xff\xff", "abc"} {
		refusesSealed(t, text)
	}
	for _, text := range []string{"", "a", "abc"} {
		sealed := seals(t, text)
		for size := range len(sealed) {
			refusesSealed(t, sealed[:size])
		}
		refusesSealed(t, sealed+"\x00")
		refusesSealed(t, "\x00"+sealed)
	}
	// Of four bytes, just one text is sealed: that of the empty one.
	opensAs(t, "\xff\xff\xff\xff", "")
	for _, text := range []string{"\x00\x00\x00\x00", "\xff\xff\xff\xfe", "\x7f\xff\xff\xff", "\xff\xff\xff\x00", "abcd"} {
		refusesSealed(t, text)
	}
}

func TestUnsealedWantsTheHighestFirst(t *testing.T) {
	for _, text := range []string{"a", "abc", "\x80", "123456789"} {
		sealed := seals(t, text)
		s := sealed[len(text):]
		refusesSealed(t, text+string([]byte{s[3], s[2], s[1], s[0]}))
		refusesSealed(t, text+s[1:]+s[:1])
		refusesSealed(t, s+text)
		refusesSealed(t, text+highestFirst(^impl.SumOf(text)))
		refusesSealed(t, text+highestFirst(impl.SumMore(0, text)))
	}
}

func TestUnsealedOfLongTexts(t *testing.T) {
	for _, size := range []int{impl.MaxText - 1, impl.MaxText} {
		text := allBytes(size)
		opensAs(t, text+highestFirst(plainSum(math.MaxUint32, text)), text)
	}
	// These end in their sum, but a text so long is never sealed.
	for _, size := range []int{impl.MaxText + 1, impl.MaxText + 4, impl.MaxText + 5, 3 * impl.MaxText} {
		text := allBytes(size)
		refusesSealed(t, text+highestFirst(plainSum(math.MaxUint32, text)))
	}
}

func TestSumsAnswersAreNewMemory(t *testing.T) {
	for _, size := range []int{1, 300, impl.MaxText} {
		sealed := seals(t, allBytes(size))
		if text, ok := impl.Unsealed(sealed); !ok || sharesMemory(text, sealed) {
			t.Error("Unsealed answers with a piece of its argument")
		}
	}
}

// Whatever comes in, a call answers, and beside a false stands nothing.
func TestSumsAnswerAtEveryArgument(t *testing.T) {
	texts := append(sumTexts(), allBytes(3), allBytes(4), allBytes(5), allBytes(impl.MaxText), allBytes(impl.MaxText+1), allBytes(impl.MaxText+4), allBytes(impl.MaxText+5), allBytes(5*impl.MaxText))
	for _, text := range texts {
		for _, sum := range []uint32{0, 1, math.MaxUint32} {
			if got, want := impl.SumMore(sum, text), plainSum(sum, text); got != want {
				t.Errorf("SumMore(%d, %q) = %d; want %d", sum, cut(text), got, want)
			}
		}
		if s, ok := impl.Sealed(text); ok != (len(text) <= impl.MaxText) || !ok && s != "" {
			t.Errorf("Sealed(%q) = %q, %v", cut(text), cut(s), ok)
		}
		if s, ok := impl.Unsealed(text); !ok && s != "" {
			t.Errorf("Unsealed(%q) = %q beside false", cut(text), cut(s))
		}
	}
}
