package tests

import (
	"math"
	"math/big"
	"slices"
	"strings"
	"testing"
	"unsafe"

	"loop.example/g00397/impl"
)

// Promise 1: What VarText, ShortText, Hex and Decimal write is read back (within their limits).

// farPlaces are no place in any text of these tests.
var farPlaces = []int{math.MinInt, math.MinInt + 1, -1 << 32, -2, -1, 1 << 32, math.MaxInt - 5, math.MaxInt - 1, math.MaxInt}

func refusesVar(t *testing.T, text string, at int) {
	t.Helper()
	if n, behind, ok := impl.ReadVar(text, at); ok || n != 0 || behind != 0 {
		t.Errorf("ReadVar(%q, %d) = %d, %d, %v; want 0, 0, false", cut(text), at, n, behind, ok)
	}
}

func readsVar(t *testing.T, text string, at, n, behind int) {
	t.Helper()
	if gotN, gotBehind, ok := impl.ReadVar(text, at); !ok || gotN != n || gotBehind != behind {
		t.Errorf("ReadVar(%q, %d) = %d, %d, %v; want %d, %d, true", cut(text), at, gotN, gotBehind, ok, n, behind)
	}
}

func refusesShort(t *testing.T, text string, at int) {
	t.Helper()
	if s, behind, ok := impl.ReadShort(text, at); ok || s != "" || behind != 0 {
		t.Errorf("ReadShort(%q, %d) = %q, %d, %v; want \"\", 0, false", cut(text), at, cut(s), behind, ok)
	}
}

func readsShort(t *testing.T, text string, at int, s string, behind int) {
	t.Helper()
	if got, gotBehind, ok := impl.ReadShort(text, at); !ok || got != s || gotBehind != behind {
		t.Errorf("ReadShort(%q, %d) = %q, %d, %v; want %q, %d, true", cut(text), at, cut(got), gotBehind, ok, cut(s), behind)
	}
}

// cut keeps what a failing test tells short.
func cut(s string) string {
	if len(s) > 40 {
		return s[:40] + ".."
	}
	return s
}

// allBytes is each byte once, and as long as asked.
func allBytes(size int) string {
	b := make([]byte, size)
	for i := range b {
		b[i] = byte(i)
	}
	return string(b)
}

func TestWordsConstants(t *testing.T) {
	if impl.MaxText != 20000 || impl.MaxNumber != 1000000000 || impl.MaxWords != 600 || impl.MaxParts != 10 {
		t.Error("a limit of chapter 1 is not the document's")
	}
}

var varTexts = []struct {
	n    int
	text string
}{
	{0, "\x00"},
	{1, "\x01"},
	{126, "\x7e"},
	{127, "\x7f"},
	{128, "\x80\x01"},
	{129, "\x81\x01"},
	{255, "\xff\x01"},
	{256, "\x80\x02"},
	{300, "\xac\x02"},
	{16383, "\xff\x7f"},
	{16384, "\x80\x80\x01"},
	{20000, "\xa0\x9c\x01"},
	{2097151, "\xff\xff\x7f"},
	{2097152, "\x80\x80\x80\x01"},
	{268435455, "\xff\xff\xff\x7f"},
	{268435456, "\x80\x80\x80\x80\x01"},
	{999999999, "\xff\x93\xeb\xdc\x03"},
	{1000000000, "\x80\x94\xeb\xdc\x03"},
}

func TestVarTextWrites(t *testing.T) {
	for _, c := range varTexts {
		if s, ok := impl.VarText(c.n); !ok || s != c.text {
			t.Errorf("VarText(%d) = %q, %v; want %q, true", c.n, s, ok, c.text)
		}
	}
	for _, n := range []int{math.MinInt, -1 << 32, -128, -127, -1, impl.MaxNumber + 1, 1 << 32, 1 << 35, math.MaxInt} {
		if s, ok := impl.VarText(n); ok || s != "" {
			t.Errorf("VarText(%d) = %q, %v; want \"\", false", n, s, ok)
		}
	}
}

func TestVarTextIsReadBack(t *testing.T) {
	var numbers []int
	for n := 0; n < 70000; n++ {
		numbers = append(numbers, n)
	}
	for n := 70000; n < impl.MaxNumber; n += 104729 {
		numbers = append(numbers, n)
	}
	for _, c := range varTexts {
		numbers = append(numbers, c.n)
	}
	for _, n := range numbers {
		s, ok := impl.VarText(n)
		if !ok {
			t.Fatalf("VarText(%d) is false", n)
		}
		readsVar(t, s, 0, n, len(s))
		for _, ahead := range []string{"", "\x80", "\xff\xff\xff"} {
			for _, behind := range []string{"\x00", "\x7f", "\x80", "\xff\x01"} {
				readsVar(t, ahead+s+behind, len(ahead), n, len(ahead)+len(s))
			}
		}
		for size := range len(s) {
			refusesVar(t, s[:size], 0)
		}
	}
}

func TestReadVarRefusesLongerForms(t *testing.T) {
	for _, c := range varTexts {
		// The last byte says that it goes on, and then nothing more comes.
		last := len(c.text) - 1
		more := c.text[:last] + string([]byte{c.text[last] | 128})
		for extra := range 12 {
			longer := more + strings.Repeat("\x80", extra) + "\x00"
			refusesVar(t, longer, 0)
			refusesVar(t, "\x05"+longer+"\x05", 1)
		}
	}
}

func TestReadVarRefusesGreaterNumbers(t *testing.T) {
	for _, text := range []string{
		"\x81\x94\xeb\xdc\x03", // MaxNumber and 1
		"\x80\x95\xeb\xdc\x03",
		"\x80\x94\xeb\xdc\x04",
		"\x80\x80\x80\x80\x04",
		"\xff\xff\xff\xff\x07",
		"\xff\xff\xff\xff\x0f",
		"\xff\xff\xff\xff\x7f",
		"\x80\x80\x80\x80\x80\x01",
		"\x80\x80\x80\x80\x80\x80\x80\x80\x80\x01",
		"\x81\x80\x80\x80\x80\x80\x80\x80\x80\x02", // 1 again, once bits above 64 are gone
		"\xff\xff\xff\xff\xff\xff\xff\xff\xff\x01",
		"\xff\xff\xff\xff\xff\xff\xff\xff\x7f",
		strings.Repeat("\x80", 19) + "\x01",
		strings.Repeat("\xff", 40) + "\x01",
	} {
		refusesVar(t, text, 0)
		refusesVar(t, "\x00"+text+"\x00", 1)
	}
}

func TestReadVarPlaces(t *testing.T) {
	for _, text := range []string{"", "\x00", "\x80", "\x80\x01", "\x05\xac\x02\x07", "\x80\x94\xeb\xdc\x03"} {
		for _, at := range farPlaces {
			refusesVar(t, text, at)
		}
		refusesVar(t, text, len(text))
		refusesVar(t, text, len(text)+1)
	}
	readsVar(t, "\x05\xac\x02\x07", 0, 5, 1)
	readsVar(t, "\x05\xac\x02\x07", 1, 300, 3)
	readsVar(t, "\x05\xac\x02\x07", 2, 2, 3)
	readsVar(t, "\x05\xac\x02\x07", 3, 7, 4)
}

// wholeNumber reads what stands at the beginning by the document's rule, with numbers of any size.
func wholeNumber(text string) (int, int, bool) {
	n := new(big.Int)
	for i := range len(text) {
		part := new(big.Int).Lsh(big.NewInt(int64(text[i]&127)), uint(7*i))
		n.Add(n, part)
		if text[i] < 128 {
			if i > 0 && text[i] == 0 || n.Cmp(big.NewInt(impl.MaxNumber)) > 0 {
				return 0, 0, false
			}
			return int(n.Int64()), i + 1, true
		}
	}
	return 0, 0, false
}

func TestReadVarOfManyTexts(t *testing.T) {
	alphabet := []byte{0, 1, 3, 4, 127, 128, 129, 220, 255}
	texts := []string{""}
	for from := 0; len(texts[from]) < 6; from++ {
		for _, b := range alphabet {
			texts = append(texts, texts[from]+string([]byte{b}))
		}
	}
	for _, text := range texts {
		n, behind, ok := wholeNumber(text)
		if !ok {
			refusesVar(t, text, 0)
			continue
		}
		readsVar(t, text, 0, n, behind)
		if s, _ := impl.VarText(n); s != text[:behind] {
			t.Errorf("VarText(%d) = %q, but it was read in %q", n, s, text)
		}
	}
}

func TestShortTextWrites(t *testing.T) {
	for _, c := range []struct{ s, ahead string }{
		{"", "\x00"},
		{"a", "\x01"},
		{"\x00\xff\x80", "\x03"},
		{allBytes(127), "\x7f"},
		{allBytes(128), "\x80\x01"},
		{allBytes(300), "\xac\x02"},
		{allBytes(impl.MaxText - 1), "\x9f\x9c\x01"},
		{allBytes(impl.MaxText), "\xa0\x9c\x01"},
	} {
		if got, ok := impl.ShortText(c.s); !ok || got != c.ahead+c.s {
			t.Errorf("ShortText of %d bytes = %q, %v", len(c.s), cut(got), ok)
		}
	}
	for _, size := range []int{impl.MaxText + 1, impl.MaxText + 2, 3 * impl.MaxText} {
		if got, ok := impl.ShortText(allBytes(size)); ok || got != "" {
			t.Errorf("ShortText of %d bytes = %q, %v; want \"\", false", size, cut(got), ok)
		}
	}
}

func TestShortTextIsReadBack(t *testing.T) {
	for _, size := range []int{0, 1, 2, 126, 127, 128, 129, 255, 256, 16383, 16384, impl.MaxText - 1, impl.MaxText} {
		s := allBytes(size)
		text, ok := impl.ShortText(s)
		if !ok {
			t.Fatalf("ShortText of %d bytes is false", size)
		}
		readsShort(t, text, 0, s, len(text))
		readsShort(t, "\x80\x01"+text+"\x00", 2, s, len(text)+2)
		for _, left := range []int{0, 1, len(text) / 2, len(text) - 1} {
			if left < len(text) {
				refusesShort(t, text[:left], 0)
			}
		}
	}
}

func TestReadShortRefuses(t *testing.T) {
	for _, text := range []string{
		"",
		"\x01",
		"\x02a",
		"\x80",
		"\x80\x00",                     // a longer form of 0
		"\x81\x00a",                    // a longer form of 1
		"\x80\x94\xeb\xdc\x03abc",      // MaxNumber bytes are not there
		"\x81\x94\xeb\xdc\x03abc",      // no number
		"\xff\xff\xff\xff\xff\xff\x7f", // no number
		strings.Repeat("\x80", 9) + "\x01" + "abc",
		"\xa1\x9c\x01" + allBytes(impl.MaxText+1), // all there, but more than MaxText
		"\xa0\x9c\x01" + allBytes(impl.MaxText-1),
	} {
		refusesShort(t, text, 0)
		refusesShort(t, "\x00"+text, 1)
	}
}

func TestReadShortPlaces(t *testing.T) {
	for _, text := range []string{"", "\x00", "\x01a", "\x02ab\x01c"} {
		for _, at := range farPlaces {
			refusesShort(t, text, at)
		}
		refusesShort(t, text, len(text))
		refusesShort(t, text, len(text)+1)
	}
	readsShort(t, "\x00", 0, "", 1)
	readsShort(t, "\x02ab\x01c", 0, "ab", 3)
	readsShort(t, "\x02ab\x01c", 3, "c", 5)
	refusesShort(t, "\x02ab\x01c", 1)
	refusesShort(t, "\x02ab\x01c", 4)
}

func TestHexWrites(t *testing.T) {
	for _, c := range []struct{ text, hex string }{
		{"", ""},
		{"\x00", "00"},
		{"\x09\x0a\x0f\x10", "090a0f10"},
		{"\x12\xab\xcd\xef", "12abcdef"},
		{"\xf0\xff", "f0ff"},
		{"Az", "417a"},
	} {
		if got, ok := impl.Hex(c.text); !ok || got != c.hex {
			t.Errorf("Hex(%q) = %q, %v; want %q, true", c.text, got, ok, c.hex)
		}
	}
	for _, size := range []int{impl.MaxText + 1, 2 * impl.MaxText} {
		if got, ok := impl.Hex(allBytes(size)); ok || got != "" {
			t.Errorf("Hex of %d bytes = %q, %v; want \"\", false", size, cut(got), ok)
		}
	}
}

func TestHexIsReadBack(t *testing.T) {
	for _, size := range []int{0, 1, 2, 255, 256, 300, impl.MaxText - 1, impl.MaxText} {
		s := allBytes(size)
		hex, ok := impl.Hex(s)
		if !ok || len(hex) != 2*size {
			t.Fatalf("Hex of %d bytes has %d, %v", size, len(hex), ok)
		}
		if got, ok := impl.Unhex(hex); !ok || got != s {
			t.Errorf("Unhex of Hex of %d bytes = %q, %v", size, cut(got), ok)
		}
	}
}

func refusesHex(t *testing.T, text string) {
	t.Helper()
	if got, ok := impl.Unhex(text); ok || got != "" {
		t.Errorf("Unhex(%q) = %q, %v; want \"\", false", cut(text), cut(got), ok)
	}
}

func TestUnhexRefuses(t *testing.T) {
	for _, text := range []string{"0", "a", "012", "0A", "A0", "FF", "aB", "0x12", " 12", "12 ", "1 2", "-1", "+1", "00g0", "000g", "é"} {
		refusesHex(t, text)
	}
	refusesHex(t, strings.Repeat("0", 2*impl.MaxText+1))
	refusesHex(t, strings.Repeat("0", 2*impl.MaxText+2))
	refusesHex(t, strings.Repeat("0", 2*impl.MaxText-1))
	refusesHex(t, strings.Repeat("0", 2*impl.MaxText-1)+"A")
}

func TestUnhexOfEachTwoBytes(t *testing.T) {
	for hi := range 256 {
		for lo := range 256 {
			text := string([]byte{byte(hi), byte(lo)})
			high := strings.Index("0123456789abcdef", text[:1])
			low := strings.Index("0123456789abcdef", text[1:])
			if high < 0 || low < 0 {
				refusesHex(t, text)
				continue
			}
			if got, ok := impl.Unhex(text); !ok || got != string([]byte{byte(16*high + low)}) {
				t.Errorf("Unhex(%q) = %q, %v", text, got, ok)
			}
		}
	}
}

func TestDecimalWrites(t *testing.T) {
	for _, c := range []struct {
		n    int
		text string
	}{
		{0, "0"},
		{1, "1"},
		{-1, "-1"},
		{-5, "-5"},
		{9, "9"},
		{10, "10"},
		{-10, "-10"},
		{99, "99"},
		{100, "100"},
		{1000000000, "1000000000"},
		{1000000001, "1000000001"},
		{-1000000000, "-1000000000"},
		{4294967296, "4294967296"},
		{math.MaxInt, "9223372036854775807"},
		{math.MinInt + 1, "-9223372036854775807"},
		{math.MinInt, "-9223372036854775808"},
	} {
		if got := impl.Decimal(c.n); got != c.text {
			t.Errorf("Decimal(%d) = %q; want %q", c.n, got, c.text)
		}
	}
}

func refusesDecimal(t *testing.T, text string) {
	t.Helper()
	if n, ok := impl.ReadDecimal(text); ok || n != 0 {
		t.Errorf("ReadDecimal(%q) = %d, %v; want 0, false", cut(text), n, ok)
	}
}

func TestDecimalIsReadBack(t *testing.T) {
	numbers := []int{100000, 999999999, impl.MaxNumber - 1, impl.MaxNumber}
	for n := range 20000 {
		numbers = append(numbers, n)
	}
	for n := 20000; n < impl.MaxNumber; n += 1299709 {
		numbers = append(numbers, n)
	}
	for _, n := range numbers {
		text := impl.Decimal(n)
		if got, ok := impl.ReadDecimal(text); !ok || got != n {
			t.Errorf("ReadDecimal(%q) = %d, %v; want %d, true", text, got, ok, n)
		}
		refusesDecimal(t, "0"+text)
		refusesDecimal(t, "+"+text)
		refusesDecimal(t, "-"+text)
	}
	for _, n := range []int{math.MinInt, -impl.MaxNumber, -1, impl.MaxNumber + 1, 1 << 32, 9999999999, math.MaxInt} {
		refusesDecimal(t, impl.Decimal(n))
	}
}

func TestReadDecimalRefuses(t *testing.T) {
	for _, text := range []string{
		"", " ", "-", "+", "-0", "+0", "00", "000", "01", "007", "0000000001", "00000000001",
		" 1", "1 ", "1 2", "1_000", "1,000", "1.0", "1e3", "0x1", "0b1", "a", "f", "1a", "a1", "/", ":", "1/", "1:", "1\n", "1\x00", "\x00", "\xb2", "\u0661",
		"1000000001", "2000000000", "9999999999", "10000000000", "01000000000",
		"18446744073709551616", "18446744073709551617", "36893488147419103233",
		strings.Repeat("9", 1000), strings.Repeat("0", 1000), "1" + strings.Repeat("0", 64),
	} {
		refusesDecimal(t, text)
	}
}

func TestReadDecimalOfShortTexts(t *testing.T) {
	for first := range 256 {
		for second := range 256 {
			text := string([]byte{byte(first), byte(second)})
			if first < '1' || first > '9' || second < '0' || second > '9' {
				refusesDecimal(t, text)
				continue
			}
			if n, ok := impl.ReadDecimal(text); !ok || n != 10*(first-'0')+second-'0' {
				t.Errorf("ReadDecimal(%q) = %d, %v", text, n, ok)
			}
		}
		if text := string([]byte{byte(first)}); first < '0' || first > '9' {
			refusesDecimal(t, text)
		} else if n, ok := impl.ReadDecimal(text); !ok || n != first-'0' {
			t.Errorf("ReadDecimal(%q) = %d, %v", text, n, ok)
		}
	}
}

func hasParts(t *testing.T, line string, want ...string) {
	t.Helper()
	if got, ok := impl.PartsOf(line); !ok || !slices.Equal(got, want) {
		t.Errorf("PartsOf(%q) = %q, %v; want %q, true", cut(line), got, ok, want)
	}
}

func refusesLine(t *testing.T, line string) {
	t.Helper()
	if got, ok := impl.PartsOf(line); ok || len(got) != 0 {
		t.Errorf("PartsOf(%q) = %q, %v; want none, false", cut(line), got, ok)
	}
}

func TestPartsOf(t *testing.T) {
	hasParts(t, "")
	hasParts(t, " ")
	hasParts(t, strings.Repeat(" ", impl.MaxWords))
	hasParts(t, "a", "a")
	hasParts(t, "a b", "a", "b")
	hasParts(t, " tick  1 2 ", "tick", "1", "2")
	hasParts(t, "   ~!\"#   $%    ", "~!\"#", "$%")
	hasParts(t, "b a b a", "b", "a", "b", "a")
	hasParts(t, "1 2 3 4 5 6 7 8 9 10", "1", "2", "3", "4", "5", "6", "7", "8", "9", "10")
	hasParts(t, " 1  2 3 4 5 6 7 8 9 10  ", "1", "2", "3", "4", "5", "6", "7", "8", "9", "10")
	refusesLine(t, "1 2 3 4 5 6 7 8 9 10 11")
	refusesLine(t, "1 2 3 4 5 6 7 8 9 10 11 12")
	refusesLine(t, " 1 2 3 4 5 6 7 8 9 10 11 ")
}

func TestPartsOfLongLines(t *testing.T) {
	long := strings.Repeat("x", impl.MaxWords)
	hasParts(t, long, long)
	hasParts(t, " "+long[2:]+" ", long[2:])
	hasParts(t, long[:300]+" "+long[301:], long[:300], long[301:])
	refusesLine(t, long+"x")
	refusesLine(t, long+" ")
	refusesLine(t, " "+long)
	refusesLine(t, strings.Repeat(" ", impl.MaxWords+1))
	refusesLine(t, strings.Repeat("a ", impl.MaxWords))
}

func TestPartsOfEachByte(t *testing.T) {
	for b := range 256 {
		one := string([]byte{byte(b)})
		for _, line := range []string{one, "a" + one, one + "a", "a" + one + "a", " " + one + " "} {
			switch {
			case b < 32 || b > 126:
				refusesLine(t, line)
			case b == 32:
				hasParts(t, line, strings.Split(strings.Trim(line, " "), " ")[:strings.Count(line, "a")]...)
			default:
				hasParts(t, line, strings.Trim(line, " "))
			}
		}
	}
	refusesLine(t, "a\tb")
	refusesLine(t, "a\nb")
	refusesLine(t, "a\u00a0b")
	refusesLine(t, strings.Repeat("x", impl.MaxWords-1)+"\x7f")
	refusesLine(t, "\x1f"+strings.Repeat("x", impl.MaxWords-1))
}

func TestPartsOfIsNewEachTime(t *testing.T) {
	line := "a b c"
	first, _ := impl.PartsOf(line)
	_ = append(first[:0], "x", "y", "z")
	hasParts(t, line, "a", "b", "c")
}

// sharesMemory tells whether a piece lies within the bytes of the whole.
func sharesMemory(piece, whole string) bool {
	if piece == "" || whole == "" {
		return false
	}
	from := uintptr(unsafe.Pointer(unsafe.StringData(whole)))
	at := uintptr(unsafe.Pointer(unsafe.StringData(piece)))
	return at >= from && at < from+uintptr(len(whole))
}

func TestWordsAnswersAreNewMemory(t *testing.T) {
	text, _ := impl.ShortText(allBytes(300))
	if s, _, ok := impl.ReadShort(text, 0); !ok || sharesMemory(s, text) {
		t.Error("ReadShort answers with a piece of its argument")
	}
	line := strings.Repeat("word ", 10)
	parts, ok := impl.PartsOf(line)
	if !ok || len(parts) != 10 {
		t.Fatalf("PartsOf(%q) = %q, %v", line, parts, ok)
	}
	for _, part := range parts {
		if sharesMemory(part, line) {
			t.Error("PartsOf answers with pieces of its argument")
		}
	}
}

// Whatever comes in, a call answers, and beside a false stands nothing.
func TestWordsAnswerAtEveryArgument(t *testing.T) {
	texts := []string{"", "\x00", " ", "0", "a", "\x80", "\xff\xff\xff\xff\xff\xff\xff\xff\xff\xff", "\xff\xfe é \U0010ffff", allBytes(255), allBytes(3 * impl.MaxText), strings.Repeat("\xff", impl.MaxText), strings.Repeat("9", impl.MaxText)}
	places := append([]int{0, 1, 2, 9, 10, 254, 255, 256, impl.MaxText, 3 * impl.MaxText}, farPlaces...)
	for _, n := range places {
		if s, ok := impl.VarText(n); !ok && s != "" {
			t.Errorf("VarText(%d) = %q beside false", n, s)
		}
		if impl.Decimal(n) == "" {
			t.Errorf("Decimal(%d) is empty", n)
		}
	}
	for _, text := range texts {
		for _, at := range places {
			if n, behind, ok := impl.ReadVar(text, at); !ok && (n != 0 || behind != 0) {
				t.Errorf("ReadVar(%q, %d) = %d, %d beside false", cut(text), at, n, behind)
			}
			if s, behind, ok := impl.ReadShort(text, at); !ok && (s != "" || behind != 0) {
				t.Errorf("ReadShort(%q, %d) = %q, %d beside false", cut(text), at, cut(s), behind)
			}
		}
		for name, f := range map[string]func(string) (string, bool){"ShortText": impl.ShortText, "Hex": impl.Hex, "Unhex": impl.Unhex} {
			if s, ok := f(text); !ok && s != "" {
				t.Errorf("%s(%q) = %q beside false", name, cut(text), cut(s))
			}
		}
		if n, ok := impl.ReadDecimal(text); !ok && n != 0 {
			t.Errorf("ReadDecimal(%q) = %d beside false", cut(text), n)
		}
		if parts, ok := impl.PartsOf(text); !ok && len(parts) != 0 {
			t.Errorf("PartsOf(%q) = %q beside false", cut(text), parts)
		}
	}
}
