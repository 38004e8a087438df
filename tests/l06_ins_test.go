package tests

import (
	"math"
	"slices"
	"strings"
	"testing"

	"loop.example/g00397/impl"
)

// Promise 6: Words and programs come back from their bytes.

// askOps are those that ask, and plainOps those without ways.
var (
	askOps   = []int{impl.OpEq, impl.OpMore, impl.OpLeast, impl.OpSet}
	plainOps = []int{impl.OpLoad, impl.OpAnd, impl.OpJump, impl.OpRet}
)

// noOps are just outside, far outside, and those whose low 8, 16 or 32 bits are one of the eight.
var noOps = []int{math.MinInt, math.MinInt + 1, math.MinInt + 8, -1 << 32, -1<<32 + 3, -256, -255, -248, -8, -3, -1, 0, 9, 10, 15, 16, 127, 128, 255, 256, 257, 259, 264, 65537, 65539, 1<<32 + 1, 1<<32 + 3, 1<<32 + 8, 1<<62 + 7, math.MaxInt - 1, math.MaxInt}

// noWays are those that lead just too far, too far, or back, and those whose low bits would do.
var noWays = []int{math.MinInt, math.MinInt + 1, math.MinInt + 15, -1 << 32, -256, -241, -16, -15, -2, -1, 16, 17, 31, 32, 127, 128, 255, 256, 257, 271, 65536, 65537, 1 << 32, 1<<32 + 1, 1<<32 + 15, math.MaxInt - 1, math.MaxInt}

// opLimits has for each Op the least K that is too great, in the document's numbers.
var opLimits = []int{0, 8, 4294967296, 4294967296, 4294967296, 4294967296, 4294967296, 400, 4294967296}

func asks(op int) bool { return op >= 3 && op <= 6 }

// wordIsRight is the document's rule of a word, with its numbers written out.
func wordIsRight(x impl.Ins) bool {
	if x.Op < 1 || x.Op > 8 || x.K < 0 || x.K >= opLimits[x.Op] {
		return false
	}
	most := 0
	if asks(x.Op) {
		most = 15
	}
	return x.Yes >= 0 && x.Yes <= most && x.No >= 0 && x.No <= most
}

// wordBytes is what the document says of a word's text, right or not: the low bits alone.
func wordBytes(op, yes, no int, k uint32) string {
	return string([]byte{byte(op), byte(yes), byte(no)}) + highestFirst(k)
}

// edgesBelow are the numbers of 0 .. limit - 1 at which a byte more or fewer would tell.
func edgesBelow(limit int) []int {
	var edges []int
	for _, n := range []int{0, 1, 2, 3, 6, 7, 8, 127, 128, 255, 256, 257, 258, 398, 399, 400, 65535, 65536, 16777215, 16777216, 16909060, 2147483647, 2147483648, 4278190080, 4294967294, 4294967295} {
		if n < limit {
			edges = append(edges, n)
		}
	}
	return edges
}

// rightWords are of each Op, with K, Yes and No at their edges.
func rightWords() []impl.Ins {
	var words []impl.Ins
	for op := 1; op <= 8; op++ {
		ways := []int{0}
		if asks(op) {
			ways = []int{0, 1, 2, 7, 8, 14, 15}
		}
		for _, k := range edgesBelow(opLimits[op]) {
			for _, yes := range ways {
				for _, no := range ways {
					words = append(words, impl.Ins{Op: op, K: k, Yes: yes, No: no})
				}
			}
		}
	}
	return words
}

// wrongWords are each wrong in one field alone.
func wrongWords() []impl.Ins {
	var words []impl.Ins
	for _, op := range noOps {
		words = append(words, impl.Ins{Op: op}, impl.Ins{Op: op, K: 5}, impl.Ins{Op: op, K: 5, Yes: 1, No: 2})
	}
	for op := 1; op <= 8; op++ {
		for _, k := range noHalves {
			words = append(words, impl.Ins{Op: op, K: k})
		}
		for _, way := range noWays {
			words = append(words, impl.Ins{Op: op, Yes: way}, impl.Ins{Op: op, No: way})
		}
	}
	for _, op := range plainOps {
		for way := 1; way <= 15; way++ {
			words = append(words, impl.Ins{Op: op, Yes: way}, impl.Ins{Op: op, No: way}, impl.Ins{Op: op, Yes: way, No: way})
		}
	}
	for _, k := range []int{8, 9, 255, 256, 264, 399, 400, 4294967295} {
		words = append(words, impl.Ins{Op: impl.OpLoad, K: k})
	}
	for _, k := range []int{400, 401, 512, 655, 65536, 65935, 4294967295} {
		words = append(words, impl.Ins{Op: impl.OpJump, K: k})
	}
	return words
}

func wordOkIs(t *testing.T, x impl.Ins, want bool) {
	t.Helper()
	if got := impl.InsOk(x); got != want {
		t.Errorf("InsOk(%+v) = %v; want %v", x, got, want)
	}
}

func writesWord(t *testing.T, x impl.Ins, want string) {
	t.Helper()
	if s, ok := impl.InsText(x); !ok || s != want {
		t.Errorf("InsText(%+v) = %q, %v; want %q, true", x, s, ok, want)
	}
}

func refusesToWriteWord(t *testing.T, x impl.Ins) {
	t.Helper()
	if s, ok := impl.InsText(x); ok || s != "" {
		t.Errorf("InsText(%+v) = %q, %v; want \"\", false", x, s, ok)
	}
}

func readsWord(t *testing.T, text string, want impl.Ins) {
	t.Helper()
	if x, ok := impl.ReadIns(text); !ok || x != want {
		t.Errorf("ReadIns(%q) = %+v, %v; want %+v, true", text, x, ok, want)
	}
}

func refusesWord(t *testing.T, text string) {
	t.Helper()
	if x, ok := impl.ReadIns(text); ok || x != (impl.Ins{}) {
		t.Errorf("ReadIns(%q) = %+v, %v; want the zero word, false", cut(text), x, ok)
	}
}

func refusesToWriteProgram(t *testing.T, list []impl.Ins) {
	t.Helper()
	if s, ok := impl.ProgramText(list); ok || s != "" {
		t.Errorf("ProgramText of %d words = %q, %v; want \"\", false", len(list), cut(s), ok)
	}
}

func refusesProgram(t *testing.T, text string) {
	t.Helper()
	if list, ok := impl.ReadProgram(text); ok || len(list) != 0 {
		t.Errorf("ReadProgram of %d bytes, %q, = %d words, %v; want none, false", len(text), cut(text), len(list), ok)
	}
}

// programComesBack writes and reads a right program, and answers with its text.
func programComesBack(t *testing.T, list []impl.Ins) string {
	t.Helper()
	var want strings.Builder
	for _, x := range list {
		want.WriteString(wordBytes(x.Op, x.Yes, x.No, uint32(x.K)))
	}
	s, ok := impl.ProgramText(list)
	if !ok || s != want.String() {
		t.Fatalf("ProgramText of %d words = %q, %v; want %q, true", len(list), cut(s), ok, cut(want.String()))
	}
	back, ok := impl.ReadProgram(s)
	if !ok || !slices.Equal(back, list) {
		t.Fatalf("%d words come back as %d, %v, and not as they were", len(list), len(back), ok)
	}
	return s
}

// someProgram is as many words as asked, from another one on each time, so that hardly two alike stand beside each other.
func someProgram(size, from int) []impl.Ins {
	words := rightWords()
	list := make([]impl.Ins, size)
	for i := range list {
		list[i] = words[(from+37*i)%len(words)]
	}
	return list
}

func TestMachineConstants(t *testing.T) {
	named := []int{impl.OpLoad, impl.OpAnd, impl.OpEq, impl.OpMore, impl.OpLeast, impl.OpSet, impl.OpJump, impl.OpRet}
	if !slices.Equal(named, []int{1, 2, 3, 4, 5, 6, 7, 8}) || impl.MaxJump != 15 || impl.MaxProgram != 400 {
		t.Errorf("the Ops are %v, the limits %d and %d", named, impl.MaxJump, impl.MaxProgram)
	}
	var narrow byte = impl.OpRet
	var wide uint32 = impl.MaxProgram
	if narrow != 8 || wide != 400 || 0.5*impl.MaxJump != 7.5 {
		t.Error("a constant of chapter 6 is not its number")
	}
}

func TestInsOkOfOps(t *testing.T) {
	for op := 1; op <= 8; op++ {
		wordOkIs(t, impl.Ins{Op: op}, true)
	}
	for _, op := range noOps {
		for _, k := range []int{0, 1, 7, 399, math.MaxInt} {
			wordOkIs(t, impl.Ins{Op: op, K: k}, false)
			wordOkIs(t, impl.Ins{Op: op, K: k, Yes: 1}, false)
			wordOkIs(t, impl.Ins{Op: op, K: k, No: 15}, false)
		}
	}
	wordOkIs(t, impl.Ins{}, false)
}

func TestInsOkOfK(t *testing.T) {
	for _, op := range []int{impl.OpAnd, impl.OpEq, impl.OpMore, impl.OpLeast, impl.OpSet, impl.OpRet} {
		for _, k := range halfEdges {
			wordOkIs(t, impl.Ins{Op: op, K: k}, true)
		}
		wordOkIs(t, impl.Ins{Op: op, K: impl.MaxHalf}, true)
		wordOkIs(t, impl.Ins{Op: op, K: impl.MaxHalf + 1}, false)
	}
	for op := 1; op <= 8; op++ {
		for _, k := range noHalves {
			wordOkIs(t, impl.Ins{Op: op, K: k}, false)
		}
	}
}

// A word loads what FieldAt has, and nothing behind it.
func TestInsOkOfLoad(t *testing.T) {
	c := plainCall()
	for k := -3; k < 20; k++ {
		_, there := impl.FieldAt(c, k)
		wordOkIs(t, impl.Ins{Op: impl.OpLoad, K: k}, there)
	}
	wordOkIs(t, impl.Ins{Op: impl.OpLoad, K: 2 + 2*impl.ArgCount - 1}, true)
	wordOkIs(t, impl.Ins{Op: impl.OpLoad, K: 2 + 2*impl.ArgCount}, false)
	for _, k := range []int{255, 256, 263, 399, 400, 1 << 16, impl.MaxHalf} {
		wordOkIs(t, impl.Ins{Op: impl.OpLoad, K: k}, false)
	}
}

func TestInsOkOfJump(t *testing.T) {
	for k := -3; k < 1000; k++ {
		wordOkIs(t, impl.Ins{Op: impl.OpJump, K: k}, k >= 0 && k <= 399)
	}
	wordOkIs(t, impl.Ins{Op: impl.OpJump, K: impl.MaxProgram - 1}, true)
	wordOkIs(t, impl.Ins{Op: impl.OpJump, K: impl.MaxProgram}, false)
	for _, k := range []int{65536, 1<<31 - 1, 1 << 31, impl.MaxHalf} {
		wordOkIs(t, impl.Ins{Op: impl.OpJump, K: k}, false)
	}
}

func TestInsOkOfWays(t *testing.T) {
	for _, op := range askOps {
		for yes := -3; yes < 40; yes++ {
			for no := -3; no < 40; no++ {
				right := yes >= 0 && yes <= 15 && no >= 0 && no <= 15
				wordOkIs(t, impl.Ins{Op: op, Yes: yes, No: no}, right)
				wordOkIs(t, impl.Ins{Op: op, K: impl.MaxHalf, Yes: yes, No: no}, right)
			}
		}
		wordOkIs(t, impl.Ins{Op: op, Yes: impl.MaxJump}, true)
		wordOkIs(t, impl.Ins{Op: op, No: impl.MaxJump}, true)
		wordOkIs(t, impl.Ins{Op: op, Yes: impl.MaxJump, No: impl.MaxJump}, true)
		wordOkIs(t, impl.Ins{Op: op, Yes: impl.MaxJump + 1}, false)
		wordOkIs(t, impl.Ins{Op: op, No: impl.MaxJump + 1}, false)
		for _, way := range noWays {
			wordOkIs(t, impl.Ins{Op: op, Yes: way}, false)
			wordOkIs(t, impl.Ins{Op: op, No: way}, false)
			wordOkIs(t, impl.Ins{Op: op, Yes: way, No: way}, false)
		}
	}
}

// Those that don't ask have no ways.
func TestInsOkOfWaysWithoutAQuestion(t *testing.T) {
	for _, op := range plainOps {
		for yes := -3; yes < 20; yes++ {
			for no := -3; no < 20; no++ {
				wordOkIs(t, impl.Ins{Op: op, K: 7, Yes: yes, No: no}, yes == 0 && no == 0)
			}
		}
		for _, way := range noWays {
			wordOkIs(t, impl.Ins{Op: op, Yes: way}, false)
			wordOkIs(t, impl.Ins{Op: op, No: way}, false)
			wordOkIs(t, impl.Ins{Op: op, Yes: way, No: -way}, false)
		}
	}
}

// All fields at all their edges at once: two wrongs don't make a right.
func TestInsOkOfEverything(t *testing.T) {
	ops := []int{math.MinInt, -1, 0, 1, 2, 3, 4, 5, 6, 7, 8, 9, 255, 259, math.MaxInt}
	ks := []int{math.MinInt, -1, 0, 7, 8, 399, 400, 4294967295, 4294967296, math.MaxInt}
	ways := []int{math.MinInt, -1, 0, 1, 15, 16, 256, math.MaxInt}
	for _, op := range ops {
		for _, k := range ks {
			for _, yes := range ways {
				for _, no := range ways {
					x := impl.Ins{Op: op, K: k, Yes: yes, No: no}
					wordOkIs(t, x, wordIsRight(x))
				}
			}
		}
	}
}

func TestInsTextKnown(t *testing.T) {
	writesWord(t, impl.Ins{Op: impl.OpEq, K: 258, Yes: 1, No: 2}, "\x03\x01\x02\x00\x00\x01\x02")
	writesWord(t, impl.Ins{Op: impl.OpLoad}, "\x01\x00\x00\x00\x00\x00\x00")
	writesWord(t, impl.Ins{Op: impl.OpLoad, K: 7}, "\x01\x00\x00\x00\x00\x00\x07")
	writesWord(t, impl.Ins{Op: impl.OpAnd, K: 0x01020304}, "\x02\x00\x00\x01\x02\x03\x04")
	writesWord(t, impl.Ins{Op: impl.OpMore, K: 255, Yes: 15}, "\x04\x0f\x00\x00\x00\x00\xff")
	writesWord(t, impl.Ins{Op: impl.OpLeast, K: 256, No: 15}, "\x05\x00\x0f\x00\x00\x01\x00")
	writesWord(t, impl.Ins{Op: impl.OpSet, K: 4294967295, Yes: 15, No: 15}, "\x06\x0f\x0f\xff\xff\xff\xff")
	writesWord(t, impl.Ins{Op: impl.OpJump, K: 399}, "\x07\x00\x00\x00\x00\x01\x8f")
	writesWord(t, impl.Ins{Op: impl.OpRet, K: 327680}, "\x08\x00\x00\x00\x05\x00\x00")
	writesWord(t, impl.Ins{Op: impl.OpRet, K: 4278190080}, "\x08\x00\x00\xff\x00\x00\x00")
}

func TestWordsComeBack(t *testing.T) {
	seen := map[string]impl.Ins{}
	for _, x := range rightWords() {
		text := wordBytes(x.Op, x.Yes, x.No, uint32(x.K))
		wordOkIs(t, x, true)
		writesWord(t, x, text)
		readsWord(t, text, x)
		if other, ok := seen[text]; ok {
			t.Errorf("%+v and %+v have one text", x, other)
		}
		seen[text] = x
	}
}

// Each way of each question, and each K where there are few.
func TestEveryNearWordComesBack(t *testing.T) {
	for op := 1; op <= 8; op++ {
		for k := range min(opLimits[op], 1000) {
			x := impl.Ins{Op: op, K: k}
			writesWord(t, x, wordBytes(op, 0, 0, uint32(k)))
			readsWord(t, wordBytes(op, 0, 0, uint32(k)), x)
		}
	}
	for _, op := range askOps {
		for yes := range 16 {
			for no := range 16 {
				x := impl.Ins{Op: op, K: 16909060, Yes: yes, No: no}
				writesWord(t, x, wordBytes(op, yes, no, 16909060))
				readsWord(t, wordBytes(op, yes, no, 16909060), x)
			}
		}
	}
}

func TestInsTextOfWrongWords(t *testing.T) {
	for _, x := range wrongWords() {
		wordOkIs(t, x, false)
		refusesToWriteWord(t, x)
	}
}

// A text is read just when it is a right word's, whatever its first three bytes are.
func TestReadInsOfEveryByte(t *testing.T) {
	ks := []uint32{0, 7, 8, 399, 400, 4294967295}
	ways := []int{0, 1, 14, 15, 16, 17, 127, 128, 254, 255}
	for op := range 256 {
		for _, yes := range ways {
			for _, no := range ways {
				for _, k := range ks {
					text := wordBytes(op, yes, no, k)
					x := impl.Ins{Op: op, K: int(k), Yes: yes, No: no}
					if wordIsRight(x) {
						readsWord(t, text, x)
						writesWord(t, x, text)
					} else {
						refusesWord(t, text)
					}
				}
			}
		}
	}
	for _, op := range []int{impl.OpLoad, impl.OpEq, impl.OpJump, impl.OpRet} {
		for way := range 256 {
			yes, no := impl.Ins{Op: op, Yes: way}, impl.Ins{Op: op, No: way}
			if wordIsRight(yes) {
				readsWord(t, wordBytes(op, way, 0, 0), yes)
				readsWord(t, wordBytes(op, 0, way, 0), no)
			} else {
				refusesWord(t, wordBytes(op, way, 0, 0))
				refusesWord(t, wordBytes(op, 0, way, 0))
			}
		}
	}
}

func TestReadInsOfOtherSizes(t *testing.T) {
	refusesWord(t, "")
	for _, x := range rightWords() {
		text := wordBytes(x.Op, x.Yes, x.No, uint32(x.K))
		refusesWord(t, text[:6])
		refusesWord(t, text[1:])
		for _, b := range []string{"\x00", "\x01", "\x08", "\xff"} {
			refusesWord(t, text+b)
			refusesWord(t, b+text)
		}
		refusesWord(t, text+text)
	}
	text := wordBytes(impl.OpRet, 0, 0, 0)
	for size := range 7 {
		refusesWord(t, text[:size])
	}
	for _, size := range []int{8, 13, 14, 15, 21, 700, 2800, impl.MaxText} {
		refusesWord(t, text+strings.Repeat("\x00", size-7))
		refusesWord(t, strings.Repeat("\x00", size-7)+text)
	}
}

func TestReadInsOfWrongTexts(t *testing.T) {
	for _, op := range []int{0, 9, 255} {
		refusesWord(t, wordBytes(op, 0, 0, 0))
		refusesWord(t, wordBytes(op, 1, 1, 1))
	}
	for _, k := range []uint32{8, 9, 256, 263, 65536, 1 << 24, 1 << 31, 4294967295} {
		refusesWord(t, wordBytes(impl.OpLoad, 0, 0, k))
	}
	for _, k := range []uint32{400, 401, 512, 65536, 1 << 24, 1 << 31, 4294967295} {
		refusesWord(t, wordBytes(impl.OpJump, 0, 0, k))
	}
	for _, op := range askOps {
		for _, way := range []int{16, 255} {
			refusesWord(t, wordBytes(op, way, 0, 0))
			refusesWord(t, wordBytes(op, 0, way, 0))
		}
	}
	for _, op := range plainOps {
		for _, way := range []int{1, 15, 16, 255} {
			refusesWord(t, wordBytes(op, way, 0, 0))
			refusesWord(t, wordBytes(op, 0, way, 0))
		}
	}
}

func TestProgramTextKnown(t *testing.T) {
	list := []impl.Ins{{Op: impl.OpLoad, K: 1}, {Op: impl.OpEq, K: 62, Yes: 1}, {Op: impl.OpRet}, {Op: impl.OpRet, K: 327680}}
	want := "\x01\x00\x00\x00\x00\x00\x01" + "\x03\x01\x00\x00\x00\x00\x3e" + "\x08\x00\x00\x00\x00\x00\x00" + "\x08\x00\x00\x00\x05\x00\x00"
	if s := programComesBack(t, list); s != want {
		t.Errorf("ProgramText = %q; want %q", s, want)
	}
}

func TestProgramsComeBack(t *testing.T) {
	for size := 1; size <= impl.MaxProgram; size++ {
		programComesBack(t, someProgram(size, size))
	}
	for _, x := range rightWords() {
		programComesBack(t, []impl.Ins{x})
		programComesBack(t, []impl.Ins{x, x})
	}
	programComesBack(t, slices.Repeat([]impl.Ins{{Op: impl.OpSet, K: impl.MaxHalf, Yes: 15, No: 15}}, impl.MaxProgram))
	programComesBack(t, slices.Repeat([]impl.Ins{{Op: impl.OpLoad}}, impl.MaxProgram))
}

// In order: two words that change their places make another text, and another program.
func TestProgramsKeepTheirOrder(t *testing.T) {
	list := someProgram(50, 3)
	text := programComesBack(t, list)
	for at := 1; at < len(list); at++ {
		other := slices.Clone(list)
		other[at-1], other[at] = other[at], other[at-1]
		if list[at-1] != list[at] && programComesBack(t, other) == text {
			t.Errorf("the words at %d and %d may change their places in %q", at-1, at, cut(text))
		}
	}
}

// Where it says true, the very text is written again.
func TestReadProgramIsTheVeryText(t *testing.T) {
	list := someProgram(9, 11)
	text := programComesBack(t, list)
	for at := range len(text) {
		for b := range 256 {
			other := turned(text, at, b)
			word := other[at/7*7 : at/7*7+7]
			x := impl.Ins{Op: int(word[0]), Yes: int(word[1]), No: int(word[2]), K: int(word[3])<<24 | int(word[4])<<16 | int(word[5])<<8 | int(word[6])}
			if !wordIsRight(x) {
				refusesProgram(t, other)
				continue
			}
			back, ok := impl.ReadProgram(other)
			if !ok || len(back) != len(list) || back[at/7] != x {
				t.Errorf("with byte %d as %d, ReadProgram answers %v and %d words", at, b, ok, len(back))
			}
			if s, ok := impl.ProgramText(back); !ok || s != other {
				t.Errorf("with byte %d as %d, another text is written than was read", at, b)
			}
		}
	}
}

func TestProgramTextOfTooFewOrMany(t *testing.T) {
	refusesToWriteProgram(t, nil)
	refusesToWriteProgram(t, []impl.Ins{})
	for _, size := range []int{impl.MaxProgram + 1, impl.MaxProgram + 2, 2 * impl.MaxProgram, 1000, 65536, 65537} {
		refusesToWriteProgram(t, someProgram(size, 1))
		refusesToWriteProgram(t, slices.Repeat([]impl.Ins{{Op: impl.OpRet}}, size))
	}
}

func TestProgramTextWithAWrongWord(t *testing.T) {
	for _, size := range []int{1, 2, 3, 17, impl.MaxProgram - 1, impl.MaxProgram} {
		for _, at := range []int{0, size / 2, size - 1} {
			for _, x := range wrongWords() {
				list := slices.Repeat([]impl.Ins{{Op: impl.OpRet, K: 1}}, size)
				list[at] = x
				refusesToWriteProgram(t, list)
			}
		}
	}
}

func TestReadProgramOfTooFewOrMany(t *testing.T) {
	refusesProgram(t, "")
	word := wordBytes(impl.OpRet, 0, 0, 5)
	for _, size := range []int{impl.MaxProgram + 1, impl.MaxProgram + 2, 2 * impl.MaxProgram, 1000, 65536, 65537} {
		refusesProgram(t, strings.Repeat(word, size))
	}
	if list, ok := impl.ReadProgram(word); !ok || len(list) != 1 {
		t.Errorf("ReadProgram of one word = %d, %v", len(list), ok)
	}
	if list, ok := impl.ReadProgram(strings.Repeat(word, impl.MaxProgram)); !ok || len(list) != impl.MaxProgram {
		t.Errorf("ReadProgram of MaxProgram words = %d, %v", len(list), ok)
	}
}

func TestReadProgramOfPartsOfWords(t *testing.T) {
	for _, size := range []int{1, 2, 3, 50, impl.MaxProgram - 1, impl.MaxProgram} {
		text := programComesBack(t, someProgram(size, size))
		for more := 1; more < 7; more++ {
			refusesProgram(t, text[:len(text)-more])
			refusesProgram(t, text[more:])
			refusesProgram(t, text+text[:more])
			refusesProgram(t, text+strings.Repeat("\x00", more))
		}
	}
}

func TestReadProgramWithAWrongWord(t *testing.T) {
	wrong := []string{
		wordBytes(0, 0, 0, 0), wordBytes(9, 0, 0, 0), wordBytes(255, 0, 0, 0),
		wordBytes(impl.OpLoad, 0, 0, 8), wordBytes(impl.OpJump, 0, 0, 400),
		wordBytes(impl.OpEq, 16, 0, 0), wordBytes(impl.OpSet, 0, 16, 0), wordBytes(impl.OpMore, 255, 0, 0), wordBytes(impl.OpLeast, 0, 255, 0),
		wordBytes(impl.OpRet, 1, 0, 0), wordBytes(impl.OpAnd, 0, 1, 0),
	}
	word := wordBytes(impl.OpEq, 1, 2, 3)
	for _, size := range []int{1, 2, 3, 17, impl.MaxProgram} {
		for _, at := range []int{0, size / 2, size - 1} {
			for _, bad := range wrong {
				refusesProgram(t, strings.Repeat(word, at)+bad+strings.Repeat(word, size-at-1))
			}
		}
	}
}

func TestMachineWordsAreNotWrittenInto(t *testing.T) {
	for _, size := range []int{1, 3, impl.MaxProgram, impl.MaxProgram + 1} {
		room := make([]impl.Ins, size+5)
		for i := range room {
			room[i] = impl.Ins{Op: impl.OpEq, K: i, Yes: i % 16, No: 3}
		}
		before := slices.Clone(room)
		impl.ProgramText(room[:size])
		if !slices.Equal(room, before) {
			t.Errorf("ProgramText of %d words wrote into its argument or behind it", size)
		}
	}
}

func TestReadProgramIsNewEachTime(t *testing.T) {
	text := strings.Repeat(wordBytes(impl.OpEq, 1, 2, 3), 4)
	first, _ := impl.ReadProgram(text)
	second, _ := impl.ReadProgram(text)
	for i := range first {
		first[i] = impl.Ins{Op: impl.OpRet}
	}
	for _, x := range second {
		if x != (impl.Ins{Op: impl.OpEq, Yes: 1, No: 2, K: 3}) {
			t.Fatalf("a program that was read changes with another one: %+v", x)
		}
	}
	third, ok := impl.ReadProgram(text)
	if !ok || !slices.Equal(third, second) {
		t.Errorf("the same text is read as %v, and then as %v", second, third)
	}
}

// Whatever comes in, a call answers, the same each time, and beside a false stands nothing.
func TestMachineWordsAnswerAtEveryArgument(t *testing.T) {
	for _, x := range slices.Concat(rightWords(), wrongWords()) {
		right := wordIsRight(x)
		wordOkIs(t, x, right)
		s, ok := impl.InsText(x)
		p, good := impl.ProgramText([]impl.Ins{x})
		if ok != right || good != right || s != p || right != (len(s) == 7) {
			t.Errorf("of %+v, InsText is %q, %v, and ProgramText %q, %v", x, s, ok, p, good)
		}
	}
	texts := []string{"", "\x00", "\x01", "0", "word", "\xff\xfe é \U0010ffff", allBytes(7), allBytes(14), allBytes(255), allBytes(2800), allBytes(3 * impl.MaxText), strings.Repeat("\xff", 7), strings.Repeat("\xff", 2800), strings.Repeat("\x01", 7), strings.Repeat("\x03", 7), strings.Repeat("\x08", 2800)}
	for _, text := range texts {
		x, ok := impl.ReadIns(text)
		if s, _ := impl.InsText(x); ok != (len(text) == 7 && s == text) || !ok && x != (impl.Ins{}) {
			t.Errorf("ReadIns(%q) = %+v, %v", cut(text), x, ok)
		}
		list, ok := impl.ReadProgram(text)
		if s, _ := impl.ProgramText(list); ok != (text != "" && s == text) || !ok && len(list) != 0 {
			t.Errorf("ReadProgram(%q) = %d words, %v", cut(text), len(list), ok)
		}
	}
}
