package tests

import (
	"fmt"
	"math"
	"math/rand/v2"
	"regexp"
	"slices"
	"strconv"
	"strings"
	"testing"

	"loop.example/g00397/impl"
)

// Promise 8: Signs come back from their texts.

// tenMarks are the document's, the longest first.
var tenMarks = []string{"==", "!=", "<=", ">=", "<", ">", "&", ":", ";", ","}

// twelveNames are the document's, in its order.
var twelveNames = []string{"read", "write", "open", "close", "stat", "mmap", "exec", "fork", "kill", "send", "recv", "exit"}

// signAhead matches what stands at the beginning of a text, if it is something: names and numbers whole, whatever their length.
var signAhead = regexp.MustCompile(`^(?:([ \n]+)|([a-z]+)|([0-9]+)|(==|!=|<=|>=|<|>|&|:|;|,))`)

func nameSign(text string) impl.Sign { return impl.Sign{Kind: 1, Text: text} }

func numSign(n int) impl.Sign { return impl.Sign{Kind: 2, Num: n} }

func markSign(text string) impl.Sign { return impl.Sign{Kind: 3, Text: text} }

// signsByRule cuts a text by the document's sentences, with the library's means.
func signsByRule(text string) ([]impl.Sign, bool) {
	var signs []impl.Sign
	for rest := text; rest != ""; {
		m := signAhead.FindStringSubmatch(rest)
		if m == nil || len(m[2]) > 12 || len(m[3]) > 10 || len(text) > 1200 {
			return nil, false
		}
		rest = rest[len(m[0]):]
		switch {
		case m[2] != "":
			signs = append(signs, nameSign(m[2]))
		case m[3] != "":
			n, err := strconv.ParseUint(m[3], 10, 32)
			if err != nil {
				return nil, false
			}
			signs = append(signs, numSign(int(n)))
		case m[4] != "":
			signs = append(signs, markSign(m[4]))
		}
	}
	return signs, true
}

// rightSigns are signs of every kind: names and numbers at their edges, and each mark.
func rightSigns() []impl.Sign {
	signs := []impl.Sign{
		nameSign("a"), nameSign("z"), nameSign("on"), nameSign("arg"), nameSign("default"), nameSign("abcdefghijk"), nameSign("abcdefghijkl"), nameSign("mnopqrstuvwx"), nameSign("zzzzzzzzzzzz"),
		numSign(9), numSign(10), numSign(99), numSign(65537), numSign(999999999), numSign(1000000000), numSign(4294967290),
	}
	for _, n := range halfEdges {
		signs = append(signs, numSign(n))
	}
	for _, name := range twelveNames {
		signs = append(signs, nameSign(name))
	}
	for _, mark := range tenMarks {
		signs = append(signs, markSign(mark))
	}
	return signs
}

// wrongSigns are such that SignsOf never answers with one of them.
func wrongSigns() []impl.Sign {
	return []impl.Sign{
		{}, {Text: "a"}, {Num: 5}, {Kind: 4, Text: "x y"}, {Kind: -1, Text: "-"}, {Kind: math.MaxInt, Text: "Z", Num: 7}, {Kind: math.MinInt},
		{Kind: 1}, {Kind: 1, Num: 3}, {Kind: 1, Text: "A"}, {Kind: 1, Text: "7"}, {Kind: 1, Text: " "}, {Kind: 1, Text: "abcdefghijklm"}, {Kind: 1, Text: "\xff\n"},
		{Kind: 2, Num: -1}, {Kind: 2, Num: math.MinInt}, {Kind: 2, Num: impl.MaxHalf + 1}, {Kind: 2, Num: math.MaxInt}, {Kind: 2, Text: "x", Num: 12}, {Kind: 2, Text: "12"},
		{Kind: 3}, {Kind: 3, Text: "="}, {Kind: 3, Text: "==="}, {Kind: 3, Text: "ab"}, {Kind: 3, Text: ":", Num: 9},
	}
}

func signsAre(t *testing.T, text string, want ...impl.Sign) {
	t.Helper()
	if got, ok := impl.SignsOf(text); !ok || !slices.Equal(got, want) {
		t.Errorf("SignsOf(%q) = %#v, %v; want %#v, true", cut(text), got[:min(len(got), 9)], ok, want[:min(len(want), 9)])
	}
}

func refusesSigns(t *testing.T, text string) {
	t.Helper()
	if got, ok := impl.SignsOf(text); ok || len(got) != 0 {
		t.Errorf("SignsOf(%q) = %#v, %v; want none, false", cut(text), got[:min(len(got), 9)], ok)
	}
}

// refusesAmongSigns holds also where right signs stand ahead of what is wrong, and behind it.
func refusesAmongSigns(t *testing.T, text string) {
	t.Helper()
	refusesSigns(t, text)
	refusesSigns(t, "on read if arg 0 <= 5 ; "+text)
	refusesSigns(t, text+" ; on write do allow ;")
	refusesSigns(t, "a "+text+" 1")
	refusesSigns(t, "\n"+text+"\n")
}

func keepsToTheRule(t *testing.T, text string) {
	t.Helper()
	if want, ok := signsByRule(text); ok {
		signsAre(t, text, want...)
	} else {
		refusesSigns(t, text)
	}
}

func signTextIs(t *testing.T, list []impl.Sign, want string) {
	t.Helper()
	if got := impl.SignText(list); got != want {
		t.Errorf("SignText(%#v) = %q; want %q", list[:min(len(list), 9)], cut(got), cut(want))
	}
}

func signsComeBack(t *testing.T, list ...impl.Sign) {
	t.Helper()
	signsAre(t, impl.SignText(list), list...)
}

func callNumberIs(t *testing.T, name string, want int) {
	t.Helper()
	if got := impl.CallNumber(name); got != want {
		t.Errorf("CallNumber(%q) = %d; want %d", cut(name), got, want)
	}
}

// drawnSpace is size blanks and bytes 10.
func drawnSpace(r *rand.Rand, size int) string {
	b := make([]byte, size)
	for i := range b {
		b[i] = " \n"[r.IntN(2)]
	}
	return string(b)
}

func TestSignConstants(t *testing.T) {
	if impl.SgName != 1 || impl.SgNum != 2 || impl.SgMark != 3 || impl.MaxPolicy != 1200 {
		t.Error("a constant of chapter 8 is not the document's")
	}
}

func TestSignsComeBackAloneAndInPairs(t *testing.T) {
	signsComeBack(t)
	signs := rightSigns()
	for _, a := range signs {
		signsComeBack(t, a)
		for _, b := range signs {
			signsComeBack(t, a, b)
			signsComeBack(t, a, b, a, b, b)
		}
	}
	signsComeBack(t, signs...)
	slices.Reverse(signs)
	signsComeBack(t, signs...)
}

func TestDrawnSignsComeBack(t *testing.T) {
	r := rand.New(rand.NewPCG(8, 1))
	for range 3000 {
		list := make([]impl.Sign, r.IntN(60))
		for i := range list {
			switch r.IntN(3) {
			case 0:
				name := make([]byte, 1+r.IntN(12))
				for at := range name {
					name[at] = byte('a' + r.IntN(26))
				}
				list[i] = nameSign(string(name))
			case 1:
				list[i] = numSign(int(r.Uint32() >> r.IntN(32)))
			default:
				list[i] = markSign(tenMarks[r.IntN(10)])
			}
		}
		signsComeBack(t, list...)
	}
}

// More blanks and bytes 10 between the signs, ahead of the first and behind the last change nothing.
func TestSignsComeBackWithMoreSpace(t *testing.T) {
	signs := rightSigns()
	r := rand.New(rand.NewPCG(8, 2))
	for _, a := range signs {
		for _, b := range signs {
			words := strings.Fields(impl.SignText([]impl.Sign{a, b, a}))
			for _, space := range []string{" ", "  ", "\n", "\n\n", " \n", "\n ", " \n \n\n  ", drawnSpace(r, 1+r.IntN(300))} {
				ahead, behind := drawnSpace(r, r.IntN(4)), drawnSpace(r, r.IntN(4))
				signsAre(t, ahead+strings.Join(words, space)+behind, a, b, a)
				signsAre(t, space+words[0]+space, a)
			}
		}
	}
}

func TestLongListsComeBack(t *testing.T) {
	marks := slices.Repeat([]impl.Sign{markSign(";")}, 600)
	signsComeBack(t, marks...) // 1199 bytes
	signsComeBack(t, append(marks[:599:599], markSign("<="))...)
	refusesSigns(t, impl.SignText(append(marks[:599:599], nameSign("abc"))))
	refusesSigns(t, impl.SignText(append(marks[:600:600], numSign(1))))
}

func TestSignsOfKnown(t *testing.T) {
	signsAre(t, "on read if arg0<=5;", nameSign("on"), nameSign("read"), nameSign("if"), nameSign("arg"), numSign(0), markSign("<="), numSign(5), markSign(";"))
	signsAre(t, "arch 62; default err 13;\non any if arg 1 & 0:255 != 4294967295:1 do log;\n",
		nameSign("arch"), numSign(62), markSign(";"), nameSign("default"), nameSign("err"), numSign(13), markSign(";"),
		nameSign("on"), nameSign("any"), nameSign("if"), nameSign("arg"), numSign(1), markSign("&"), numSign(0), markSign(":"), numSign(255), markSign("!="), numSign(4294967295), markSign(":"), numSign(1), nameSign("do"), nameSign("log"), markSign(";"))
	signsAre(t, "read,write,3", nameSign("read"), markSign(","), nameSign("write"), markSign(","), numSign(3))
	refusesSigns(t, "on Read")
}

func TestSignsOfNames(t *testing.T) {
	for size := 1; size <= 12; size++ {
		for letter := 'a'; letter <= 'z'; letter++ {
			name := strings.Repeat(string(letter), size)
			signsAre(t, name, nameSign(name))
		}
	}
	for _, size := range []int{13, 14, 24, 25, 26, 100, 1199, 1200} {
		refusesSigns(t, strings.Repeat("a", size))
		refusesSigns(t, "x "+strings.Repeat("q", min(size, 1196))+" x")
	}
	refusesAmongSigns(t, "abcdefghijklm")
	refusesAmongSigns(t, "abcdefghijklm;")
	refusesAmongSigns(t, "7abcdefghijklm")
	signsAre(t, "abcdefghijkl mnopqrstuvwx", nameSign("abcdefghijkl"), nameSign("mnopqrstuvwx"))
	signsAre(t, "abcdefghijkl\nm", nameSign("abcdefghijkl"), nameSign("m"))
	signsAre(t, "abcdefghijkl0m", nameSign("abcdefghijkl"), numSign(0), nameSign("m"))
}

// Each byte alone, beside a name, a number and a mark, and among blanks.
func TestSignsOfEachByte(t *testing.T) {
	for b := range 256 {
		one := string([]byte{byte(b)})
		for _, text := range []string{one, "a" + one, one + "a", "a" + one + "a", "1" + one, one + "1", "1" + one + "1", "<" + one, one + "=", " " + one, one + "\n", " " + one + " ", one + one} {
			keepsToTheRule(t, text)
		}
		lower, figure := b >= 'a' && b <= 'z', b >= '0' && b <= '9'
		if !lower && !figure && b != ' ' && b != '\n' && !strings.Contains("<>&:;,", one) {
			refusesAmongSigns(t, one)
			refusesSigns(t, "a"+one+"b")
			refusesSigns(t, "1"+one+"2")
		}
	}
}

func TestSignsOfEachRune(t *testing.T) {
	for r := rune(128); r <= 0x10ffff; r++ {
		if got, ok := impl.SignsOf(string(r)); ok || len(got) != 0 {
			t.Fatalf("SignsOf(%q) = %#v, %v; want none, false", string(r), got, ok)
		}
	}
	// Letters, figures, blanks and marks elsewhere, and some whose lowest byte would do.
	for _, text := range []string{"é", "ß", "я", "š", "ı", "ａ", "４", "٣", "²", "＝＝", "≤", "；", "\u00a0", "\u2028", "\u3000", "\u0120", "\u010a", "\u0430", "\ufeff", "\ufffd", "😀"} {
		refusesAmongSigns(t, text)
		refusesSigns(t, "a"+text+"b")
		refusesSigns(t, "1"+text)
		refusesSigns(t, text+"=")
	}
}

// Bytes that are no text of runes: cut off, too long a form, halves of pairs, alone.
func TestSignsOfNoRunes(t *testing.T) {
	for _, text := range []string{"\x80", "\xbf", "\xc3", "\xc0\xbb", "\xc1\xa1", "\xe0\x81\xa1", "\xe2\x82", "\xed\xa0\x80", "\xf0\x9f\x98", "\xf4\x90\x80\x80", "\xf8", "\xfe", "\xff", "\xff\xff"} {
		refusesAmongSigns(t, text)
		refusesSigns(t, "a"+text)
		refusesSigns(t, text+"a")
		refusesSigns(t, "<"+text)
		refusesSigns(t, text+"=")
	}
}

func TestSignsOfCapitalLetters(t *testing.T) {
	for letter := 'A'; letter <= 'Z'; letter++ {
		refusesAmongSigns(t, string(letter))
		refusesAmongSigns(t, "ab"+string(letter))
		refusesAmongSigns(t, string(letter)+"ab")
		refusesAmongSigns(t, "a"+string(letter)+"b")
	}
}

func TestSignsOfNumbers(t *testing.T) {
	for _, c := range []struct {
		text string
		n    int
	}{
		{"0", 0}, {"1", 1}, {"9", 9}, {"10", 10}, {"1234567890", 1234567890}, {"999999999", 999999999}, {"1000000001", 1000000001},
		{"2147483648", 2147483648}, {"4294967294", 4294967294}, {"4294967295", impl.MaxHalf},
		{"00", 0}, {"01", 1}, {"007", 7}, {"010", 10}, {"0000000000", 0}, {"0000000001", 1}, {"0123456789", 123456789}, {"0999999999", 999999999},
	} {
		signsAre(t, c.text, numSign(c.n))
		signsAre(t, "a"+c.text+";", nameSign("a"), numSign(c.n), markSign(";"))
	}
	for size := 1; size <= 10; size++ {
		signsAre(t, strings.Repeat("0", size), numSign(0))
		signsAre(t, strings.Repeat("0", size-1)+"5", numSign(5))
	}
}

// A number that is too great, or has too many figures, though it may be small.
func TestSignsOfNumbersThatAreTooGreat(t *testing.T) {
	for _, text := range []string{
		"4294967296", "4294967297", "4294967300", "4300000000", "5000000000", "8589934591", "9999999999", "9000000000",
		"00000000000", "00000000001", "01234567890", "04294967295", "10000000000", "42949672950", "99999999999",
		"000000000000000000000000000007", "18446744073709551615", "18446744073709551616", "18446744073709551617", "36893488147419103233",
		strings.Repeat("9", 100), "1" + strings.Repeat("0", 64),
	} {
		refusesAmongSigns(t, text)
		refusesAmongSigns(t, "a"+text)
		refusesAmongSigns(t, text+";")
		refusesAmongSigns(t, "1:"+text)
	}
	refusesSigns(t, strings.Repeat("0", 1200))
	signsAre(t, "4294967295 1", numSign(4294967295), numSign(1))
	signsAre(t, "0000000000 1", numSign(0), numSign(1))
	signsAre(t, "429496729 6", numSign(429496729), numSign(6))
}

func TestSignsOfMarks(t *testing.T) {
	for _, mark := range tenMarks {
		signsAre(t, mark, markSign(mark))
		signsAre(t, "a"+mark+"1", nameSign("a"), markSign(mark), numSign(1))
		signsAre(t, "1"+mark+"a", numSign(1), markSign(mark), nameSign("a"))
	}
	signsAre(t, "<=", markSign("<="))
	signsAre(t, "<:", markSign("<"), markSign(":"))
	signsAre(t, "<>", markSign("<"), markSign(">"))
	signsAre(t, "><", markSign(">"), markSign("<"))
	signsAre(t, "<<=", markSign("<"), markSign("<="))
	signsAre(t, "<=<", markSign("<="), markSign("<"))
	signsAre(t, "<===", markSign("<="), markSign("=="))
	signsAre(t, "< ==", markSign("<"), markSign("=="))
	signsAre(t, "====", markSign("=="), markSign("=="))
	signsAre(t, "!===", markSign("!="), markSign("=="))
	signsAre(t, "==!=", markSign("=="), markSign("!="))
	signsAre(t, "&&", markSign("&"), markSign("&"))
	signsAre(t, "::", markSign(":"), markSign(":"))
	signsAre(t, ";;,,", markSign(";"), markSign(";"), markSign(","), markSign(","))
	signsAre(t, ">=>&:;,<", markSign(">="), markSign(">"), markSign("&"), markSign(":"), markSign(";"), markSign(","), markSign("<"))
}

// The longest one is taken, though a shorter one would leave a mark behind; and what is left alone is none.
func TestSignsOfNoMarks(t *testing.T) {
	for _, text := range []string{"=", "!", "===", "=====", "!==", "!!", "!!=", "=!", "=<", "=>", "=<=", "<==", ">==", "<= =", "= =", "! =", "=\n=", "!\n=", "=a=", "!1", ":=", "=:", "&=", "|", "||", "-", "--", "-1", "+", "*", "/", "%", "^", "~", "(", ")", "[", "]", "{", "}", ".", "1.0", "?", "@", "#", "$", "'", "\"", "\\", "`", "_", "a_b"} {
		refusesAmongSigns(t, text)
	}
}

func TestSignsOfSignsSideBySide(t *testing.T) {
	signsAre(t, "1a", numSign(1), nameSign("a"))
	signsAre(t, "a1", nameSign("a"), numSign(1))
	signsAre(t, "a1b2", nameSign("a"), numSign(1), nameSign("b"), numSign(2))
	signsAre(t, "0x10", numSign(0), nameSign("x"), numSign(10))
	signsAre(t, "1e3", numSign(1), nameSign("e"), numSign(3))
	signsAre(t, "4294967295a4294967295", numSign(4294967295), nameSign("a"), numSign(4294967295))
	signs := rightSigns()
	for _, a := range signs {
		for _, b := range signs {
			if a.Kind == b.Kind {
				continue
			}
			text := impl.SignText([]impl.Sign{a, b, a})
			signsAre(t, strings.ReplaceAll(text, " ", ""), a, b, a)
		}
	}
}

func TestSignsOfSpace(t *testing.T) {
	signsAre(t, "")
	signsAre(t, " ")
	signsAre(t, "\n")
	signsAre(t, " \n \n\n")
	signsAre(t, strings.Repeat(" ", 1200))
	signsAre(t, strings.Repeat("\n", 1200))
	signsAre(t, "a b", nameSign("a"), nameSign("b"))
	signsAre(t, "a\nb", nameSign("a"), nameSign("b"))
	signsAre(t, "1 2\n3", numSign(1), numSign(2), numSign(3))
	signsAre(t, "\n a \n", nameSign("a"))
	for b := range 33 {
		if b == ' ' || b == '\n' {
			continue
		}
		one := string([]byte{byte(b)})
		for _, text := range []string{one, "a" + one + "b", one + "a", "a" + one, "1" + one + "2", "<" + one + "=", " " + one + " ", one + "\n"} {
			refusesSigns(t, text)
		}
	}
	refusesAmongSigns(t, "a\tb")
	refusesAmongSigns(t, "a\r\nb")
}

func TestSignsOfLongTexts(t *testing.T) {
	long := strings.Repeat("a ", 600)
	signsAre(t, long, slices.Repeat([]impl.Sign{nameSign("a")}, 600)...)
	signsAre(t, strings.Repeat(";", 1200), slices.Repeat([]impl.Sign{markSign(";")}, 1200)...)
	signsAre(t, strings.Repeat("==", 600), slices.Repeat([]impl.Sign{markSign("==")}, 600)...)
	signsAre(t, strings.Repeat("a1", 600), slices.Repeat([]impl.Sign{nameSign("a"), numSign(1)}, 600)...)
	signsAre(t, strings.Repeat(" ", 1199)+"a", nameSign("a"))
	signsAre(t, "a"+strings.Repeat("\n", 1199), nameSign("a"))
	for _, text := range []string{long + " ", long + "\n", long + ";", long + "b", " " + long, strings.Repeat(" ", 1201), strings.Repeat("\n", 1201), strings.Repeat(";", 1201), strings.Repeat("a1", 601), strings.Repeat(" ", 1200) + "a", "a" + strings.Repeat(" ", 1200), strings.Repeat("a ", 30000)} {
		refusesSigns(t, text)
	}
	// The last byte of all is looked at, too.
	refusesSigns(t, long[:1199]+"=")
	refusesSigns(t, long[:1199]+"A")
	refusesSigns(t, long[:1198]+"é")
}

// All short texts of bytes at which something begins, ends or goes wrong.
func TestSignsOfManyTexts(t *testing.T) {
	texts := []string{""}
	for from := 0; len(texts[from]) < 5; from++ {
		for _, b := range []byte("a1=!<: \nA") {
			texts = append(texts, texts[from]+string([]byte{b}))
		}
	}
	for _, text := range texts {
		keepsToTheRule(t, text)
	}
}

func TestSignsOfDrawnTexts(t *testing.T) {
	parts := []string{"a", "zz", "abcdef", "abcdefghijkl", "0", "1", "42", "429496729", "4294967295", "=", "==", "!=", "<=", ">=", "<", ">", "&", ":", ";", ",", " ", " ", " ", "\n", "  \n", "\t", "\xff", "é", "Q"}
	r := rand.New(rand.NewPCG(8, 3))
	for range 30000 {
		var text strings.Builder
		usable := len(parts) - r.IntN(5)
		for range r.IntN(12) {
			text.WriteString(parts[r.IntN(usable)])
		}
		keepsToTheRule(t, text.String())
	}
}

// What no sentence names is its zero value: a number has no text, a name and a mark have no number.
func TestSignsOfLeavesTheRestEmpty(t *testing.T) {
	signs, ok := impl.SignsOf("a 007 <= 12 read ;")
	if !ok || len(signs) != 6 {
		t.Fatalf("SignsOf = %#v, %v", signs, ok)
	}
	for _, s := range signs {
		if s.Kind == impl.SgNum && s.Text != "" || s.Kind != impl.SgNum && s.Num != 0 {
			t.Errorf("a sign has more than it may: %#v", s)
		}
	}
}

func TestSignTextKnown(t *testing.T) {
	signTextIs(t, nil, "")
	signTextIs(t, []impl.Sign{}, "")
	signTextIs(t, []impl.Sign{nameSign("read")}, "read")
	signTextIs(t, []impl.Sign{numSign(7)}, "7")
	signTextIs(t, []impl.Sign{markSign("<=")}, "<=")
	signTextIs(t, []impl.Sign{nameSign("on"), nameSign("any"), nameSign("do"), nameSign("err"), numSign(13), markSign(";")}, "on any do err 13 ;")
	signTextIs(t, []impl.Sign{markSign("<"), markSign("=="), numSign(0), numSign(10)}, "< == 0 10")
	signs, _ := impl.SignsOf("\n on  read if arg0<=007 ;\n")
	signTextIs(t, signs, "on read if arg 0 <= 7 ;")
}

func TestSignTextOfNumbers(t *testing.T) {
	for _, n := range append(slices.Clone(halfEdges), noHalves...) {
		want := "0"
		if n > 0 {
			want = fmt.Sprint(n)
		}
		signTextIs(t, []impl.Sign{numSign(n)}, want)
		signTextIs(t, []impl.Sign{numSign(n), numSign(n)}, want+" "+want)
		signTextIs(t, []impl.Sign{nameSign("a"), {Kind: impl.SgNum, Text: "b", Num: n}, markSign(";")}, "a "+want+" ;")
	}
	signTextIs(t, []impl.Sign{numSign(-1)}, "0")
	signTextIs(t, []impl.Sign{numSign(-4294967296)}, "0")
	signTextIs(t, []impl.Sign{numSign(4294967296)}, "4294967296")
	signTextIs(t, []impl.Sign{numSign(math.MaxInt)}, "9223372036854775807")
}

// Of signs that are not right the Text stands as it is, also an empty one; just a number has figures.
func TestSignTextOfWrongSigns(t *testing.T) {
	for _, s := range wrongSigns() {
		want := s.Text
		if s.Kind == 2 {
			want = fmt.Sprint(max(0, s.Num))
		}
		signTextIs(t, []impl.Sign{s}, want)
		signTextIs(t, []impl.Sign{s, s}, want+" "+want)
		signTextIs(t, []impl.Sign{nameSign("a"), s, numSign(1)}, "a "+want+" 1")
	}
	signTextIs(t, make([]impl.Sign, 3), "  ")
	signTextIs(t, []impl.Sign{nameSign("A b"), markSign("\xff\n"), {Kind: 9, Text: "", Num: 4}, {Kind: 0, Text: "é"}}, "A b \xff\n  é")
	signTextIs(t, slices.Repeat([]impl.Sign{nameSign("abc")}, 5000), strings.Repeat("abc ", 4999)+"abc")
}

func TestCallNames(t *testing.T) {
	if got := impl.CallNames(); !slices.Equal(got, twelveNames) {
		t.Errorf("CallNames() = %q; want %q", got, twelveNames)
	}
}

func TestCallNamesAreNewEachTime(t *testing.T) {
	first, second := impl.CallNames(), impl.CallNames()
	for i := range first {
		first[i] = "x"
	}
	_ = append(first[:3], "fork", "fork")
	clear(first[:cap(first)])
	if !slices.Equal(second, twelveNames) {
		t.Errorf("an answer changes with another one: %q", second)
	}
	TestCallNames(t)
	for place, name := range twelveNames {
		callNumberIs(t, name, place)
	}
	callNumberIs(t, "x", -1)
	callNumberIs(t, "", -1)
}

func TestCallNumber(t *testing.T) {
	for place, name := range twelveNames {
		callNumberIs(t, name, place)
		for _, other := range []string{name + "s", "a" + name, name[1:], name[:len(name)-1], name + name, " " + name, name + " ", name[:2] + " " + name[2:], name + "\n", name + "\x00", strings.ToUpper(name), strings.ToUpper(name[:1]) + name[1:], name[:3] + strings.ToUpper(name[3:])} {
			callNumberIs(t, other, -1)
		}
	}
	for _, name := range []string{"", " ", "\x00", "a", "any", "on", "arg", "0", "1", "12", "-1", "allow", "trap", "log", "Read", "READ", "read write", "read,write", "ré", "\xff", strings.Repeat("read", 1000)} {
		callNumberIs(t, name, -1)
	}
}

func TestSignsAnswersAreNewMemory(t *testing.T) {
	text := strings.Repeat("read <= 5 ;", 20)
	signs, ok := impl.SignsOf(text)
	if !ok || len(signs) != 80 {
		t.Fatalf("SignsOf(%q) = %#v, %v", text, signs, ok)
	}
	for _, s := range signs {
		if sharesMemory(s.Text, text) {
			t.Errorf("SignsOf answers with a piece of its argument: %#v", s)
		}
	}
	word := strings.Repeat("x", 9) + fmt.Sprint(len(text))
	for _, list := range [][]impl.Sign{{nameSign(word)}, {markSign(word)}, {{Kind: 7, Text: word}}, {nameSign(word), {}}} {
		if sharesMemory(impl.SignText(list), word) {
			t.Error("SignText answers with a text of its argument")
		}
	}
	one := strings.Repeat("y", 1+len(signs)/40)
	if signs, ok := impl.SignsOf(one); !ok || len(signs) != 1 || sharesMemory(signs[0].Text, one) {
		t.Error("SignsOf answers with its argument")
	}
}

func TestSignsOfIsNewEachTime(t *testing.T) {
	first, _ := impl.SignsOf("a 1 ;")
	second, _ := impl.SignsOf("a 1 ;")
	clear(first[:cap(first)])
	want := []impl.Sign{nameSign("a"), numSign(1), markSign(";")}
	if !slices.Equal(second, want) {
		t.Errorf("an answer changes with another one: %#v", second)
	}
	signsAre(t, "a 1 ;", want...)
}

func TestSignsAreNotWrittenInto(t *testing.T) {
	for _, kept := range [][]impl.Sign{rightSigns(), wrongSigns()} {
		room := append(slices.Clone(kept), numSign(77), nameSign("spare"), markSign("&"))
		before := slices.Clone(room)
		for size := range kept {
			impl.SignText(room[:size])
			if !slices.Equal(room, before) {
				t.Fatalf("with %d signs something was written into an argument or behind it", size)
			}
		}
	}
}

// Whatever comes in, all four answer, the same each time, and beside a false stands nothing.
func TestSignsAnswerAtEveryArgument(t *testing.T) {
	texts := []string{"", "\x00", " ", "=", "!", "a", "0", "\x80", "\xff\xfe é \U0010ffff", allBytes(255), allBytes(1200), allBytes(1201), allBytes(3 * impl.MaxText), strings.Repeat("\xff", 1200), strings.Repeat("9", 1200), strings.Repeat("=", 1199), strings.Repeat("=", 1200), strings.Repeat("a", impl.MaxText)}
	for _, text := range texts {
		keepsToTheRule(t, text)
		keepsToTheRule(t, text)
		callNumberIs(t, text, -1)
		for _, kind := range []int{math.MinInt, -1, 0, 1, 3, 4, math.MaxInt} {
			signTextIs(t, []impl.Sign{{Kind: kind, Text: text, Num: len(text)}}, text)
		}
		signTextIs(t, []impl.Sign{{Kind: 2, Text: text, Num: len(text)}}, strconv.Itoa(len(text)))
	}
}
