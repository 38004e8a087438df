package tests

import (
	"fmt"
	"math"
	"math/rand/v2"
	"slices"
	"strconv"
	"strings"
	"testing"

	"loop.example/g00397/impl"
)

// Promise 11: Ways lead where their labels stand, however far.

func place(label string) impl.Line { return impl.Line{Label: label} }

func line(x impl.Ins) impl.Line { return impl.Line{Ins: x} }

// asking is a line that asks whether the register is, or is more than, K.
func asking(op, k int, yes, no string) impl.Line {
	return impl.Line{Ins: impl.Ins{Op: op, K: k}, Yes: yes, No: no}
}

func going(to string) impl.Line { return impl.Line{Ins: impl.Ins{Op: impl.OpJump}, Yes: to} }

// loads are lines of one word each, which lead on.
func loads(count int) []impl.Line {
	list := make([]impl.Line, count)
	for i := range list {
		list[i] = line(load(i % 8))
	}
	return list
}

// ends are lines that end with a result each, from 100 on.
func ends(count int) []impl.Line {
	list := make([]impl.Line, count)
	for i := range list {
		list[i] = line(ret(100 + i))
	}
	return list
}

func withLine(list []impl.Line, at int, l impl.Line) []impl.Line {
	list = slices.Clone(list)
	list[at] = l
	return list
}

// placeAt is where a label stands at or behind a place of the list; -1 is nowhere.
func placeAt(list []impl.Line, from int, label string) int {
	for i := from; i < len(list); i++ {
		if list[i].Ins.Op == 0 && list[i].Label == label {
			return i
		}
	}
	return -1
}

// linesAreRight holds each line against the document's sentences, one after the other.
func linesAreRight(list []impl.Line) bool {
	if len(list) == 0 || len(list) > 600 {
		return false
	}
	for i, l := range list {
		yes, no := placeAt(list, i+1, l.Yes), placeAt(list, i+1, l.No)
		right := false
		switch op := l.Ins.Op; {
		case op == 0:
			right = l.Ins == impl.Ins{} && l.Yes+l.No == "" && len(l.Label) > 0 && len(l.Label) < 13 && placeAt(list, i+1, l.Label) < 0
		case asks(op):
			right = yes > i && no > i && l.Ins.Yes == 0 && l.Ins.No == 0
		case op == 7:
			right = yes > i && l.No == "" && l.Ins.K == 0
		default:
			right = l.Yes+l.No == ""
		}
		if !right || l.Ins.Op != 0 && (l.Label != "" || !wordIsRight(l.Ins)) {
			return false
		}
	}
	return list[len(list)-1].Ins.Op == 8
}

// wordsBetween are those that a way from one line to a place passes over, by some sizes.
func wordsBetween(sizes []int, from, to int) int {
	sum := 0
	for _, size := range sizes[from+1 : to] {
		sum += size
	}
	return sum
}

// sizesByRounds are the sizes as the document tells them: all are 1 at first, and grow again and again.
func sizesByRounds(list []impl.Line) []int {
	sizes := make([]int, len(list))
	for i, l := range list {
		if l.Ins.Op != 0 {
			sizes[i] = 1
		}
	}
	for some := true; some; {
		some = false
		before := slices.Clone(sizes)
		for i, l := range list {
			if !asks(l.Ins.Op) || before[i] == 3 {
				continue
			}
			if wordsBetween(before, i, placeAt(list, i+1, l.Yes)) > 15 || wordsBetween(before, i, placeAt(list, i+1, l.No)) > 15 {
				sizes[i], some = 3, true
			}
		}
	}
	return sizes
}

// wordsByRule are the words of right lines, each way told by where its label's first word stands.
func wordsByRule(list []impl.Line) []impl.Ins {
	sizes := sizesByRounds(list)
	first := func(label string) int { return wordsBetween(sizes, -1, placeAt(list, 0, label)) }
	var words []impl.Ins
	for i, l := range list {
		x, here := l.Ins, len(words)
		switch {
		case x.Op == 0:
			continue
		case sizes[i] == 3:
			words = append(words, ask(x.Op, x.K, 0, 1), jump(first(l.Yes)-here-2), jump(first(l.No)-here-3))
			continue
		case x.Op == 7:
			x.K = first(l.Yes) - here - 1
		case asks(x.Op):
			x.Yes, x.No = first(l.Yes)-here-1, first(l.No)-here-1
		}
		words = append(words, x)
	}
	return words
}

// walk ends as the lines themselves say: from label to label, with the sum of words that are done on its way.
func walk(list []impl.Line, fields []int) (int, int) {
	sizes := sizesByRounds(list)
	register, words := 0, 0
	for at := 0; ; at++ {
		l := list[at]
		words += min(sizes[at], 1)
		switch op := l.Ins.Op; {
		case op == 1:
			register = fields[l.Ins.K]
		case op == 2:
			register = int(uint32(register) & uint32(l.Ins.K))
		case op == 7:
			at = placeAt(list, at, l.Yes)
		case op == 8:
			return l.Ins.K, words
		case asks(op):
			// One of three words does one of its jumps as well.
			words += sizes[at] / 2
			to := l.No
			if answerOf(op, register, l.Ins.K) {
				to = l.Yes
			}
			at = placeAt(list, at, to)
		}
	}
}

// linesSaid are the first of some lines, cut where their labels are of great length.
func linesSaid(list []impl.Line) string {
	said := strconv.Itoa(len(list)) + " lines:"
	for _, l := range list[:min(len(list), 20)] {
		said += fmt.Sprintf(" {%.15q %v %.15q %.15q}", l.Label, l.Ins, l.Yes, l.No)
	}
	return said
}

func linesOkIs(t *testing.T, list []impl.Line, want bool) {
	t.Helper()
	if got := impl.LinesOk(list); got != want {
		t.Errorf("LinesOk of %s = %v; want %v", linesSaid(list), got, want)
	}
}

func sizesAre(t *testing.T, list []impl.Line, want ...int) {
	t.Helper()
	if got := impl.Sizes(list); !slices.Equal(got, want) {
		t.Errorf("Sizes of %s = %v; want %v", linesSaid(list), got, want)
	}
}

// layoutIs wants true beside some words, and false beside none.
func layoutIs(t *testing.T, list []impl.Line, want ...impl.Ins) {
	t.Helper()
	if got, ok := impl.Layout(list); ok != (len(want) > 0) || !slices.Equal(got, want) {
		t.Errorf("Layout of %s = %+v, %v; want %+v", linesSaid(list), got, ok, want)
	}
}

func refusesLines(t *testing.T, list []impl.Line) {
	t.Helper()
	linesOkIs(t, list, false)
	sizesAre(t, list)
	layoutIs(t, list)
}

// isLaidOut holds right lines against the document's sentences: sizes, words, and how they run with calls.
func isLaidOut(t *testing.T, list []impl.Line, calls ...impl.Call) {
	t.Helper()
	linesOkIs(t, list, true)
	sizesAre(t, list, sizesByRounds(list)...)
	words := wordsByRule(list)
	if len(words) > 400 {
		layoutIs(t, list)
		return
	}
	layoutIs(t, list, words...)
	checkIs(t, words, true)
	for _, c := range calls {
		result, count := walk(list, fieldsOf(c))
		runIs(t, words, c, result, count)
	}
}

// followsTheRule holds lines of any kind.
func followsTheRule(t *testing.T, list []impl.Line, calls ...impl.Call) {
	t.Helper()
	if linesAreRight(list) {
		isLaidOut(t, list, calls...)
	} else {
		refusesLines(t, list)
	}
}

// drawnLines are right: they come from the last to the first, so that each way has its place behind it.
func drawnLines(r *rand.Rand, size, near int) []impl.Line {
	list := []impl.Line{line(ret(r.IntN(1000)))}
	var labels []string
	label := func() string {
		if r.IntN(4) == 0 {
			return labels[r.IntN(len(labels))]
		}
		return labels[len(labels)-1-r.IntN(min(len(labels), near))]
	}
	for len(list) < size {
		x := drawnWord(r, 0)
		l := line(x)
		switch {
		case len(labels) == 0 || r.IntN(4) == 0:
			labels = append(labels, "l"+strconv.Itoa(len(labels)))
			l = place(labels[len(labels)-1])
		case asks(x.Op):
			l.Yes, l.No = label(), label()
		case x.Op == 7:
			l.Yes = label()
		}
		list = append(list, l)
	}
	slices.Reverse(list)
	return list
}

func TestWaysLeadWhereTheirLabelsStand(t *testing.T) {
	calls := rightCalls()
	r := rand.New(rand.NewPCG(11, 1))
	laid, grown := 0, 0
	for i := range 2000 {
		list := drawnLines(r, 1+i%impl.MaxProgram, 1+r.IntN(20))
		var some []impl.Call
		for range 8 {
			some = append(some, calls[r.IntN(len(calls))])
		}
		isLaidOut(t, list, some...)
		words, ok := impl.Layout(list)
		if !ok {
			continue
		}
		laid++
		if slices.Contains(impl.Sizes(list), 3) {
			grown++
		}
		for _, c := range some {
			result, _ := walk(list, fieldsOf(c))
			if got, _ := impl.Run(words, c); got != result {
				t.Fatalf("the words end with %d, the lines with %d: %+v", got, result, list)
			}
		}
	}
	if laid < 1000 || grown < 500 || laid-grown < 50 {
		t.Errorf("of 2000 lists %d are laid out, and of %d some lines grow: too few or too many to tell much", laid, grown)
	}
}

// Each way by itself: from the word of its line it comes to the first word behind the place of its label.
func TestEachWayComesToItsLabel(t *testing.T) {
	r := rand.New(rand.NewPCG(11, 2))
	for range 600 {
		list := drawnLines(r, 2+r.IntN(300), 1+r.IntN(30))
		words, ok := impl.Layout(list)
		if !ok {
			continue
		}
		sizes := impl.Sizes(list)
		firstAt := func(at int) int { return wordsBetween(sizes, -1, at) }
		for i, l := range list {
			at := firstAt(i)
			if l.Yes == "" {
				continue
			}
			yes, no := firstAt(placeAt(list, 0, l.Yes)), firstAt(max(placeAt(list, 0, l.No), 0))
			x := words[at]
			switch {
			case l.Ins.Op == 7:
				if at+1+x.K != yes {
					t.Fatalf("line %d jumps to word %d; want %d: %+v", i, at+1+x.K, yes, list)
				}
			case sizes[i] == 3:
				if at+2+words[at+1].K != yes || at+3+words[at+2].K != no || x.Yes != 0 || x.No != 1 {
					t.Fatalf("line %d comes by %+v to other words than %d and %d: %+v", i, words[at:at+3], yes, no, list)
				}
			default:
				if at+1+x.Yes != yes || at+1+x.No != no {
					t.Fatalf("line %d comes by %+v to other words than %d and %d: %+v", i, x, yes, no, list)
				}
			}
		}
	}
}

func TestLayoutKnown(t *testing.T) {
	layoutIs(t, ends(1), ret(100))
	layoutIs(t, []impl.Line{line(load(3)), line(and(7)), line(ret(9))}, load(3), and(7), ret(9))
	list := []impl.Line{line(load(0)), asking(impl.OpEq, 1, "y", "n"), place("n"), line(ret(2)), place("y"), line(ret(3))}
	layoutIs(t, list, load(0), ask(impl.OpEq, 1, 1, 0), ret(2), ret(3))
	sizesAre(t, list, 1, 1, 0, 1, 0, 1)
	list = []impl.Line{going("y"), line(ret(1)), line(ret(2)), place("y"), line(ret(3))}
	layoutIs(t, list, jump(2), ret(1), ret(2), ret(3))
	sizesAre(t, list, 1, 1, 1, 0, 1)
	// Both ways to one place, and places that stand beside each other.
	layoutIs(t, []impl.Line{asking(impl.OpSet, 4, "a", "a"), line(ret(1)), place("a"), line(ret(2))}, ask(impl.OpSet, 4, 1, 1), ret(1), ret(2))
	layoutIs(t, []impl.Line{asking(impl.OpSet, 4, "a", "b"), line(ret(1)), place("a"), place("b"), line(ret(2))}, ask(impl.OpSet, 4, 1, 1), ret(1), ret(2))
	layoutIs(t, []impl.Line{asking(impl.OpSet, 4, "b", "a"), line(ret(1)), place("a"), line(ret(2)), place("b"), line(ret(3))}, ask(impl.OpSet, 4, 2, 1), ret(1), ret(2), ret(3))
	// A place that no way leads to is none of the words.
	layoutIs(t, []impl.Line{place("a"), line(load(1)), place("b"), line(ret(2))}, load(1), ret(2))
	// One of three words, from the first to the last of its ways.
	list = slices.Concat([]impl.Line{asking(impl.OpMore, 5, "y", "n"), place("n")}, ends(16), []impl.Line{place("y"), line(ret(3))})
	layoutIs(t, list, slices.Concat([]impl.Ins{ask(impl.OpMore, 5, 0, 1), jump(17), jump(0)}, rets(16), []impl.Ins{ret(3)})...)
	list[0].Yes, list[0].No = "n", "y"
	layoutIs(t, list, slices.Concat([]impl.Ins{ask(impl.OpMore, 5, 0, 1), jump(1), jump(16)}, rets(16), []impl.Ins{ret(3)})...)
	list[0].Yes = "y"
	layoutIs(t, list, slices.Concat([]impl.Ins{ask(impl.OpMore, 5, 0, 1), jump(17), jump(16)}, rets(16), []impl.Ins{ret(3)})...)
}

// sizeOfWays is what the first line becomes, whose ways pass over some words each.
func sizeOfWays(t *testing.T, op, yes, no int) int {
	t.Helper()
	list := []impl.Line{asking(op, 7, "y", "n")}
	for words := range max(yes, no) + 1 {
		if words == yes {
			list = append(list, place("y"))
		}
		if words == no {
			list = append(list, place("n"))
		}
		list = append(list, line(ret(100+words)))
	}
	isLaidOut(t, list, ofNum(0), ofNum(7), ofNum(8))
	words, ok := impl.Layout(list)
	// The register is 0 at first, which is not 7 nor more: the way is No.
	if result, _ := impl.Run(words, plainCall()); ok && result != 100+no {
		t.Errorf("a way over %d words comes to the one with %d", no, result)
	}
	return impl.Sizes(list)[0]
}

// Just MaxJump words away is near, one more is far: by Yes alone, by No alone and by both.
func TestSizesOfWaysJustWithinReach(t *testing.T) {
	far := []int{impl.MaxJump + 1, impl.MaxJump + 2, 30, 31, 32, 63, 64, 255, 256, 300, 390, 450}
	near := []int{0, 1, 2, 7, impl.MaxJump - 1, impl.MaxJump}
	for _, op := range askOps {
		for _, a := range near {
			for _, b := range near {
				if size := sizeOfWays(t, op, a, b); size != 1 {
					t.Errorf("a question with ways over %d and %d words becomes %d", a, b, size)
				}
			}
			for _, b := range far {
				if yes, no := sizeOfWays(t, op, b, a), sizeOfWays(t, op, a, b); yes != 3 || no != 3 {
					t.Errorf("a question with ways over %d and %d words becomes %d, %d the other way round", b, a, yes, no)
				}
			}
		}
		for _, b := range far {
			if size := sizeOfWays(t, op, b, b); size != 3 {
				t.Errorf("a question with two ways over %d words becomes %d", b, size)
			}
		}
	}
}

// A jump is one word, however far.
func TestSizesOfJumps(t *testing.T) {
	for words := range impl.MaxProgram - 1 {
		list := slices.Concat([]impl.Line{going("y")}, ends(words), []impl.Line{place("y"), line(ret(3))})
		layoutIs(t, list, slices.Concat([]impl.Ins{jump(words)}, rets(words), []impl.Ins{ret(3)})...)
		if size := impl.Sizes(list)[0]; size != 1 {
			t.Errorf("a jump over %d words becomes %d", words, size)
		}
		if words%20 == 0 {
			isLaidOut(t, list, plainCall())
		}
	}
	// A jump over a question that is far has more words to pass over.
	list := slices.Concat([]impl.Line{going("a"), asking(impl.OpEq, 1, "b", "b"), place("a")}, ends(16), []impl.Line{place("b"), line(ret(1))})
	layoutIs(t, list, slices.Concat([]impl.Ins{jump(3), ask(impl.OpEq, 1, 0, 1), jump(17), jump(16)}, rets(16), []impl.Ins{ret(1)})...)
}

// Places are no words: a way over many of them is near.
func TestSizesOfPlacesAreNothing(t *testing.T) {
	var places []impl.Line
	for i := range 500 {
		places = append(places, place("p"+strconv.Itoa(i)))
	}
	for words := range 18 {
		list := slices.Concat([]impl.Line{asking(impl.OpEq, 0, "y", "p0")}, places, loads(words), []impl.Line{place("y"), line(ret(3))})
		isLaidOut(t, list, plainCall())
		want := 1 + 2*(words/16)
		if sizes := impl.Sizes(list); sizes[0] != want || slices.Max(sizes[1:501]) != 0 {
			t.Errorf("over 500 places and %d words a question becomes %d; want %d", words, sizes[0], want)
		}
	}
}

// withinAnother is a question whose way passes over some words and over one more question, whose way passes over others.
func withinAnother(outer, inner int) []impl.Line {
	return slices.Concat([]impl.Line{asking(impl.OpEq, 0, "o", "o")}, loads(outer), []impl.Line{asking(impl.OpEq, 0, "i", "i"), place("o")},
		loads(inner), []impl.Line{place("i"), line(ret(5))})
}

// A question within reach is not any more, when one between it and its label becomes 3.
func TestSizesOfOneThatGrowsByAnother(t *testing.T) {
	for outer := range 20 {
		for inner := range 20 {
			list := withinAnother(outer, inner)
			isLaidOut(t, list, rightCalls()...)
			sizes := impl.Sizes(list)
			wantInner := 1
			if inner > 15 {
				wantInner = 3
			}
			wantOuter := 1
			if outer+wantInner > 15 {
				wantOuter = 3
			}
			if sizes[0] != wantOuter || sizes[outer+1] != wantInner {
				t.Errorf("over %d and %d words questions become %d and %d; want %d and %d", outer, inner, sizes[0], sizes[outer+1], wantOuter, wantInner)
			}
		}
	}
}

// chain is a list of questions, each of which passes over 14 words and the next one: just MaxJump, as long as that is 1.
func chain(count, last int) []impl.Line {
	var list []impl.Line
	for i := range count {
		own := "c" + strconv.Itoa(i)
		list = append(list, asking(askOps[i%4], i%3, own, own))
		if i > 0 {
			list = append(list, place("c"+strconv.Itoa(i-1)))
		}
		if i < count-1 {
			list = append(list, loads(14)...)
		}
	}
	return slices.Concat(list, loads(last), []impl.Line{place("c" + strconv.Itoa(count-1)), line(ret(6))})
}

// row is a list of questions beside each other, each with a label that is 15 words behind it, but the last one, with room words behind it.
func row(count, room int) []impl.Line {
	list := make([]impl.Line, 0, 2*count+40)
	for i := range count {
		own := "r" + strconv.Itoa(i)
		list = append(list, asking(askOps[i%4], i%3, own, own))
		if i > 14 {
			list = append(list, place("r"+strconv.Itoa(i-15)))
		}
	}
	for i := max(count-15, 0); i < count-1; i++ {
		list = append(list, line(load(i%8)), place("r"+strconv.Itoa(i)))
	}
	return slices.Concat(list, loads(room-min(count, 15)+1), []impl.Line{place("r" + strconv.Itoa(count-1)), line(ret(6))})
}

func grownIn(list []impl.Line) int {
	grown := 0
	for _, size := range impl.Sizes(list) {
		grown += size / 3
	}
	return grown
}

// Each makes the one ahead of it too far, from the last to the first; or none does.
func TestSizesOfChains(t *testing.T) {
	for count := 1; count <= 40; count++ {
		for last := range 18 {
			list := chain(count, last)
			want := count * (last / 16)
			if got := grownIn(list); len(list) <= 600 && got != want {
				t.Errorf("of a chain of %d questions with %d words behind the last %d grow; want %d", count, last, got, want)
			}
			followsTheRule(t, list, ofNum(1), ofNum(9))
		}
	}
}

func TestSizesOfRows(t *testing.T) {
	for _, count := range []int{15, 16, 17, 18, 40, 100, 129, 130, 131, 200, 280} {
		for _, room := range []int{14, 15, 16, 17} {
			list := row(count, room)
			want := count * (room / 16)
			if got := grownIn(list); got != want {
				t.Errorf("of a row of %d questions with %d words behind the last %d grow; want %d", count, room, got, want)
			}
			isLaidOut(t, list, ofNum(0), ofNum(1), ofNum(9))
		}
	}
}

// A chain is left by one that has room enough for the next one's growing: those ahead of it stay.
func TestSizesOfAChainThatStops(t *testing.T) {
	for stop := range 12 {
		list := chain(12, 16)
		at := 0
		for i, l := range list {
			if l.Yes == "c"+strconv.Itoa(stop) {
				at = i
			}
		}
		if stop == 11 {
			list = chain(12, 15)
		} else {
			list = slices.Delete(list, at+2, at+4)
		}
		isLaidOut(t, list, rightCalls()...)
		if got := grownIn(list); got != 11-stop {
			t.Errorf("of a chain that stops at its question %d, %d grow; want %d", stop, got, 11-stop)
		}
	}
}

// A question grows by one way that others push away, also when its other way stays near.
func TestSizesOfOneWayThatIsPushedAway(t *testing.T) {
	for _, words := range []int{15, 16} {
		list := slices.Concat([]impl.Line{asking(impl.OpEq, 9, "far", "near"), place("near")}, loads(14),
			[]impl.Line{asking(impl.OpEq, 3, "end", "end"), place("far")}, loads(words), []impl.Line{place("end"), line(ret(1))})
		want := 1 + 2*(words/16)
		if sizes := impl.Sizes(list); sizes[0] != want || sizes[16] != want {
			t.Errorf("Yes over 15 words, the last of which has %d to its label, becomes %d; want %d", words, sizes[0], want)
		}
		isLaidOut(t, list, rightCalls()...)
		list[0].Yes, list[0].No = "near", "far"
		if sizes := impl.Sizes(list); sizes[0] != want {
			t.Errorf("No over 15 words, the last of which has %d to its label, becomes %d; want %d", words, sizes[0], want)
		}
		isLaidOut(t, list, rightCalls()...)
	}
}

// One that grew is too far for a second reason: it does not grow twice.
func TestSizesAreNoMoreThanThree(t *testing.T) {
	r := rand.New(rand.NewPCG(11, 3))
	for range 300 {
		list := drawnLines(r, 100+r.IntN(500), 40)
		for i, size := range impl.Sizes(list) {
			l := list[i]
			if (size == 0) != (l.Ins.Op == 0) || size == 3 && !asks(l.Ins.Op) || size != 0 && size != 1 && size != 3 {
				t.Fatalf("the size of %+v is %d", l, size)
			}
		}
	}
}

// Just MaxProgram words are laid out, one more are not: places are not counted, and those of three are three.
func TestLayoutOfTheMostWords(t *testing.T) {
	for _, words := range []int{1, 2, 399, impl.MaxProgram, impl.MaxProgram + 1, impl.MaxProgram + 2, 599, 600} {
		list := append(loads(words-1), line(ret(1)))
		isLaidOut(t, list, plainCall())
		if got, ok := impl.Layout(list); ok != (words <= impl.MaxProgram) || ok && len(got) != words {
			t.Errorf("Layout of %d words = %d words, %v", words, len(got), ok)
		}
	}
	for _, words := range []int{impl.MaxProgram, impl.MaxProgram + 1} {
		var list []impl.Line
		for i := range 600 - words {
			list = append(list, place(strconv.Itoa(i)))
		}
		list = append(append(list, loads(words-1)...), line(ret(1)))
		got, ok := impl.Layout(list)
		if len(list) != 600 || ok != (words == impl.MaxProgram) || len(got) != words*(impl.MaxProgram+1-words) {
			t.Errorf("Layout of %d places and %d words = %d words, %v", 600-words, words, len(got), ok)
		}
		isLaidOut(t, list, plainCall())
	}
	for far := 1; far < 100; far += 7 {
		for _, words := range []int{impl.MaxProgram - 1, impl.MaxProgram, impl.MaxProgram + 1, impl.MaxProgram + 2} {
			list := slices.Concat(slices.Repeat([]impl.Line{asking(impl.OpEq, 1, "e", "e")}, far), loads(words-3*far-1), []impl.Line{place("e"), line(ret(1))})
			got, ok := impl.Layout(list)
			if ok != (words <= impl.MaxProgram) || ok && len(got) != words || !ok && len(got) != 0 {
				t.Errorf("Layout of %d questions of three words and %d others = %d words, %v", far, words-3*far, len(got), ok)
			}
			if sum := wordsBetween(impl.Sizes(list), -1, len(list)); sum != words {
				t.Errorf("the sum of sizes is %d; want %d", sum, words)
			}
			isLaidOut(t, list, plainCall(), ofNum(1))
		}
	}
}

// plainLines are right, with a line of every kind.
func plainLines() []impl.Line {
	return []impl.Line{line(load(0)), asking(impl.OpEq, 1, "a", "b"), line(and(7)), place("b"), going("c"), line(ret(1)), place("a"), line(load(2)), place("c"), line(ret(2))}
}

func TestLinesOkOfCounts(t *testing.T) {
	refusesLines(t, nil)
	refusesLines(t, []impl.Line{})
	refusesLines(t, make([]impl.Line, 0, 5))
	for _, count := range []int{1, 2, 16, 17, 18, 399, 400, 401, 599, 600, 601, 602, 1200, 5000, 65537} {
		linesOkIs(t, ends(count), count <= 600)
		linesOkIs(t, append(loads(count-1), line(ret(1))), count <= 600)
		places := make([]impl.Line, count)
		for i := range places {
			places[i] = place(strconv.Itoa(i))
		}
		places[count-1] = line(ret(1))
		linesOkIs(t, places, count <= 600)
		if count > 600 {
			refusesLines(t, places)
			refusesLines(t, ends(count))
		}
	}
	linesOkIs(t, plainLines(), true)
	isLaidOut(t, plainLines(), rightCalls()...)
}

func TestLinesOkOfLabels(t *testing.T) {
	list := []impl.Line{asking(impl.OpEq, 1, "", ""), line(ret(1)), place(""), line(ret(2))}
	labelled := func(label string) []impl.Line {
		list := slices.Clone(list)
		list[0].Yes, list[0].No, list[2].Label = label, label, label
		return list
	}
	for size := range 40 {
		for _, letter := range []string{"a", "\x00", "\xff", " "} {
			label := strings.Repeat(letter, size)
			linesOkIs(t, labelled(label), size >= 1 && size <= 12)
			linesOkIs(t, []impl.Line{place(label), line(ret(1))}, size >= 1 && size <= 12)
		}
	}
	refusesLines(t, labelled(""))
	refusesLines(t, labelled("abcdefghijklm"))
	refusesLines(t, labelled(strings.Repeat("é", 7)))
	isLaidOut(t, labelled(strings.Repeat("é", 6)), plainCall())
	isLaidOut(t, labelled("abcdefghijkl"), plainCall())
	for _, label := range append(strings.Split(allBytes(256), ""), "\x00\x00", "\xff\xfe", "a b", "\n", "é", "\xe2\x82", "\U0001f600", "p1\x80", "0", "-1") {
		isLaidOut(t, labelled(label), plainCall(), ofNum(1))
	}
}

// Labels are texts of bytes: what is like another one in part is another one.
func TestLinesOkOfLabelsThatAreAlike(t *testing.T) {
	alike := []string{"a", "A", "a\x00", "\x00a", "aa", "a ", " a", "b", "\xc3\xa9", "\xc3", "e\xcc\x81", "abcdefghijkl", "abcdefghijkm", "abcdefghijk", "1", "01", "\xff", "\xfe", "\xef\xbf\xbd"}
	for _, a := range alike {
		for _, b := range alike {
			list := []impl.Line{asking(impl.OpEq, 0, a, b), line(ret(1)), place(a), line(ret(2)), place(b), line(ret(3))}
			if a == b {
				refusesLines(t, list)
				continue
			}
			layoutIs(t, list, ask(impl.OpEq, 0, 1, 2), ret(1), ret(2), ret(3))
			list[4].Label = "other"
			refusesLines(t, list)
		}
	}
}

func TestLinesOkOfTheSameLabelTwice(t *testing.T) {
	refusesLines(t, []impl.Line{place("a"), place("a"), line(ret(1))})
	refusesLines(t, []impl.Line{place("a"), line(load(1)), place("b"), line(load(1)), place("a"), line(ret(1))})
	refusesLines(t, []impl.Line{going("a"), place("a"), line(load(1)), place("a"), line(ret(1))})
	refusesLines(t, []impl.Line{going("a"), place("a"), going("a"), place("a"), line(ret(1))})
	var list []impl.Line
	for i := range 599 {
		list = append(list, place(strconv.Itoa(i)))
	}
	list = append(list, line(ret(1)))
	linesOkIs(t, list, true)
	for _, at := range []int{0, 1, 300, 597} {
		refusesLines(t, withLine(list, 598, list[at]))
		refusesLines(t, withLine(list, at, list[598]))
	}
}

// A place has its Label and nothing else, whatever would be right elsewhere.
func TestLinesOkOfPlacesWithSomethingElse(t *testing.T) {
	for _, at := range []int{3, 6, 8} {
		good := plainLines()[at]
		for _, n := range append([]int{2, 7, 15, 16}, farPlaces...) {
			if n == 0 {
				continue
			}
			for _, x := range []impl.Ins{{K: n}, {Yes: n}, {No: n}, {K: n, Yes: n, No: n}} {
				bad := good
				bad.Ins = x
				refusesLines(t, withLine(plainLines(), at, bad))
			}
		}
		for _, label := range []string{"c", "a", "b", "x", "\x00", good.Label} {
			bad := good
			bad.Yes = label
			refusesLines(t, withLine(plainLines(), at, bad))
			bad.No = label
			refusesLines(t, withLine(plainLines(), at, bad))
			bad.Yes = ""
			refusesLines(t, withLine(plainLines(), at, bad))
		}
	}
	// Also where it has no Label, or a wrong one.
	refusesLines(t, []impl.Line{{}, line(ret(1))})
	refusesLines(t, []impl.Line{{Yes: "a"}, place("a"), line(ret(1))})
}

func TestLinesOkOfWordsWithALabel(t *testing.T) {
	for at, l := range plainLines() {
		for _, label := range []string{"x", "a", "c", "\x00", "abcdefghijklm", strings.Repeat("x", 1000)} {
			if l.Ins.Op == 0 {
				continue
			}
			bad := l
			bad.Label = label
			refusesLines(t, withLine(plainLines(), at, bad))
		}
	}
}

func TestLinesOkOfWordsThatAreNotRight(t *testing.T) {
	for _, x := range wrongWords() {
		for at, l := range plainLines() {
			bad := l
			bad.Ins = x
			if x != (impl.Ins{}) || l.Yes != "" {
				refusesLines(t, withLine(plainLines(), at, bad))
			}
			refusesLines(t, withLine(plainLines(), at, line(x)))
		}
		followsTheRule(t, []impl.Line{line(x), line(ret(1))}, plainCall())
		followsTheRule(t, []impl.Line{{Label: "a", Ins: x}, line(ret(1))}, plainCall())
	}
	for _, x := range rightWords() {
		for _, to := range []impl.Line{{}, {Yes: "a"}, {Yes: "a", No: "b"}, {No: "b"}} {
			to.Ins = x
			followsTheRule(t, []impl.Line{to, place("b"), line(ret(1)), place("a"), line(ret(2))}, ofNum(x.K))
			followsTheRule(t, []impl.Line{place("b"), line(load(0)), place("a"), to}, plainCall())
		}
	}
}

// Numbers do not stand where labels tell the way, though the word would be right with them.
func TestLinesOkOfWaysAsNumbers(t *testing.T) {
	for _, op := range askOps {
		for way := 1; way <= impl.MaxJump; way++ {
			for _, x := range []impl.Ins{ask(op, 1, way, 0), ask(op, 1, 0, way), ask(op, 1, way, way)} {
				bad := line(x)
				refusesLines(t, withLine(plainLines(), 1, bad))
				bad.Yes, bad.No = "a", "b"
				refusesLines(t, withLine(plainLines(), 1, bad))
				bad.Yes, bad.No = "a", "a"
				refusesLines(t, withLine(plainLines(), 1, bad))
			}
		}
		isLaidOut(t, withLine(plainLines(), 1, asking(op, 7, "a", "b")), rightCalls()...)
		isLaidOut(t, withLine(plainLines(), 1, asking(op, impl.MaxHalf, "c", "c")), rightCalls()...)
	}
	for k := 1; k < impl.MaxProgram; k++ {
		bad := line(jump(k))
		linesOkIs(t, withLine(plainLines(), 4, bad), false)
		bad.Yes = "c"
		linesOkIs(t, withLine(plainLines(), 4, bad), false)
	}
}

// Ways lead to labels that stand behind: not to those ahead, nor to what is no label.
func TestLinesOkOfWays(t *testing.T) {
	for _, op := range askOps {
		for _, bad := range []string{"", "x", "A", "a\x00", "ahead", "abcdefghijklm", strings.Repeat("a", 1000)} {
			for _, list := range [][]impl.Line{
				{place("ahead"), asking(op, 1, bad, "a"), line(ret(1)), place("a"), line(ret(2))},
				{place("ahead"), asking(op, 1, "a", bad), line(ret(1)), place("a"), line(ret(2))},
				{place("ahead"), asking(op, 1, bad, bad), line(ret(1)), place("a"), line(ret(2))},
				{place("ahead"), going(bad), line(ret(1)), place("a"), line(ret(2))},
			} {
				refusesLines(t, list)
			}
		}
	}
	// Back by one, and to a place just ahead; then to the line's own place just behind it.
	refusesLines(t, []impl.Line{place("a"), going("a"), line(ret(1))})
	refusesLines(t, []impl.Line{place("a"), asking(impl.OpEq, 1, "a", "b"), place("b"), line(ret(1))})
	refusesLines(t, []impl.Line{place("a"), asking(impl.OpEq, 1, "b", "a"), place("b"), line(ret(1))})
	refusesLines(t, []impl.Line{going("b"), place("a"), line(load(1)), going("a"), place("b"), line(ret(1))})
	layoutIs(t, []impl.Line{going("a"), place("a"), line(ret(1))}, jump(0), ret(1))
	layoutIs(t, []impl.Line{asking(impl.OpEq, 1, "a", "a"), place("a"), line(ret(1))}, ask(impl.OpEq, 1, 0, 0), ret(1))
	layoutIs(t, []impl.Line{place("x"), asking(impl.OpEq, 1, "b", "a"), place("a"), line(ret(1)), place("b"), line(ret(2))}, ask(impl.OpEq, 1, 1, 0), ret(1), ret(2))
}

// A label that was passed stands behind no more, though many lines ahead went to it.
func TestLinesOkOfWaysBack(t *testing.T) {
	list := slices.Concat(slices.Repeat([]impl.Line{going("m")}, 20), []impl.Line{place("m")}, slices.Repeat([]impl.Line{asking(impl.OpSet, 1, "e", "e")}, 20), []impl.Line{place("e"), line(ret(1))})
	isLaidOut(t, list, plainCall())
	for at := range list {
		for _, to := range []string{"m", "e"} {
			if list[at].Ins.Op != 0 && at < len(list)-1 {
				followsTheRule(t, withLine(list, at, going(to)), plainCall())
				followsTheRule(t, withLine(list, at, asking(impl.OpMore, 0, to, "e")), plainCall())
				followsTheRule(t, withLine(list, at, asking(impl.OpMore, 0, "e", to)), plainCall())
			}
		}
	}
}

// Words that lead on or end have no way, and a jump has one.
func TestLinesOkOfWaysThatAWordHasNot(t *testing.T) {
	for _, x := range []impl.Ins{load(0), and(7), ret(1), jump(0)} {
		for _, label := range []string{"a", "ahead", "x", "\x00"} {
			yes, no := "", ""
			if x.Op == 7 {
				yes = "a"
			}
			good := impl.Line{Ins: x, Yes: yes, No: no}
			list := []impl.Line{place("ahead"), good, line(ret(1)), place("a"), line(ret(2))}
			isLaidOut(t, list, plainCall())
			refusesLines(t, withLine(list, 1, impl.Line{Ins: x, Yes: yes, No: label}))
			if x.Op != 7 {
				refusesLines(t, withLine(list, 1, impl.Line{Ins: x, Yes: label}))
				refusesLines(t, withLine(list, 1, impl.Line{Ins: x, Yes: label, No: label}))
			}
		}
	}
	// The last one too, behind which nothing stands.
	refusesLines(t, []impl.Line{place("a"), {Ins: ret(1), Yes: "a"}})
	refusesLines(t, []impl.Line{place("a"), {Ins: ret(1), No: "a"}})
	refusesLines(t, []impl.Line{{Ins: ret(1), Yes: "x"}})
}

// Behind the last place stands a word, and the last line is an OpRet.
func TestLinesOkOfTheLastLine(t *testing.T) {
	refusesLines(t, []impl.Line{place("a")})
	refusesLines(t, []impl.Line{line(ret(1)), place("a")})
	refusesLines(t, []impl.Line{going("a"), line(ret(1)), place("a")})
	refusesLines(t, []impl.Line{asking(impl.OpEq, 1, "a", "b"), place("b"), line(ret(1)), place("a")})
	refusesLines(t, []impl.Line{place("a"), line(ret(1)), place("b"), place("c")})
	for _, x := range rightWords() {
		linesOkIs(t, []impl.Line{line(ret(1)), line(x)}, x.Op == 8)
		linesOkIs(t, []impl.Line{line(x)}, x.Op == 8)
		linesOkIs(t, []impl.Line{line(ret(1)), place("a"), {Ins: x, Yes: "a", No: "a"}}, false)
	}
	for count := 1; count <= 600; count += 37 {
		refusesLines(t, append(ends(count), line(load(0))))
		refusesLines(t, append(ends(count), place("a")))
		refusesLines(t, append(ends(count), impl.Line{}))
		refusesLines(t, loads(count))
	}
}

// spoiled changes one thing of one line, or moves a line, so that the list is often wrong and sometimes right.
func spoiled(r *rand.Rand, list []impl.Line) []impl.Line {
	list = slices.Clone(list)
	at, other := r.IntN(len(list)), r.IntN(len(list))
	labels := []string{"", "l0", "l1", "l2", "l" + strconv.Itoa(r.IntN(60)), "x", "abcdefghijklm", list[other].Label, list[other].Yes}
	label := labels[r.IntN(len(labels))]
	number := append([]int{1, 2, 15, 16}, farPlaces...)[r.IntN(4+len(farPlaces))]
	l := &list[at]
	switch r.IntN(10) {
	case 0:
		l.Label = label
	case 1:
		l.Yes = label
	case 2:
		l.No = label
	case 3:
		l.Ins.Op = r.IntN(11) - 1
	case 4:
		l.Ins.K = number
	case 5:
		l.Ins.Yes = number
	case 6:
		l.Ins.No = number
	case 7:
		list[at], list[other] = list[other], list[at]
	case 8:
		list = slices.Delete(list, at, at+1)
	case 9:
		list = slices.Insert(list, at, list[other])
	}
	return list
}

func TestSpoiledLinesFollowTheRule(t *testing.T) {
	r := rand.New(rand.NewPCG(11, 4))
	right := 0
	for i := range 20000 {
		list := spoiled(r, drawnLines(r, 2+i%60, 1+r.IntN(20)))
		if linesAreRight(list) {
			right++
		}
		followsTheRule(t, list, ofNum(r.IntN(3)))
	}
	if right < 1000 || right > 19000 {
		t.Errorf("of 20000 spoiled lists %d are right, too few or too many to tell much", right)
	}
}

func TestLinesWriteIntoNothing(t *testing.T) {
	r := rand.New(rand.NewPCG(11, 5))
	for range 200 {
		room := append(drawnLines(r, 1+r.IntN(300), 20), slices.Repeat([]impl.Line{asking(impl.OpEq, 9, "l0", "l1")}, 5)...)
		size := len(room) - 5
		for _, list := range [][]impl.Line{room[:size], room[:size-1], room[:size+1], row(130, 16)[:]} {
			before := slices.Clone(list[:cap(list)])
			impl.LinesOk(list)
			sizes := impl.Sizes(list)
			words, _ := impl.Layout(list)
			clear(sizes[:cap(sizes)])
			clear(words[:cap(words)])
			if !slices.Equal(list[:cap(list)], before) {
				t.Fatalf("with %d lines something was written into an argument or behind it", len(list))
			}
		}
	}
}

func TestLaidOutLinesAreNewEachTime(t *testing.T) {
	list := plainLines()
	sizes := impl.Sizes(list)
	words, _ := impl.Layout(list)
	sizesBefore, wordsBefore := slices.Clone(sizes), slices.Clone(words)
	otherSizes := impl.Sizes(list)
	otherWords, _ := impl.Layout(list)
	clear(otherSizes[:cap(otherSizes)])
	clear(otherWords[:cap(otherWords)])
	if !slices.Equal(sizes, sizesBefore) || !slices.Equal(words, wordsBefore) {
		t.Errorf("an answer changes with another one: %v, %v", sizes, words)
	}
	// What was refused leaves nothing behind.
	refusesLines(t, []impl.Line{place("a"), place("a"), line(ret(1))})
	sizesAre(t, list, sizesBefore...)
	layoutIs(t, list, wordsBefore...)
}

// Whatever comes in, all three answer, the same each time.
func TestLinesAnswerAtEveryArgument(t *testing.T) {
	long := strings.Repeat("label", 200000)
	texts := []string{"", "a", "b", "\x00", "\xff\xfe", "abcdefghijkl", "abcdefghijklm", long, long + "x"}
	numbers := append([]int{0, 1, 3, 7, 8, 9, math.MinInt, math.MaxInt}, farPlaces...)
	r := rand.New(rand.NewPCG(11, 6))
	text := func() string { return texts[r.IntN(len(texts))] }
	number := func() int { return numbers[r.IntN(len(numbers))] }
	for range 5000 {
		list := make([]impl.Line, r.IntN(8))
		for i := range list {
			list[i] = impl.Line{Label: text(), Ins: impl.Ins{Op: number(), K: number(), Yes: number(), No: number()}, Yes: text(), No: text()}
			if r.IntN(2) == 0 {
				list[i] = impl.Line{Label: text()}
			}
		}
		if r.IntN(2) == 0 {
			list = append(list, line(ret(1)))
		}
		followsTheRule(t, list, plainCall())
	}
	for _, count := range []int{600, 601, 100000} {
		for _, l := range []impl.Line{{}, place("a"), place(long), going("a"), asking(impl.OpEq, 1, "a", "b"), {Ins: impl.Ins{Op: -1}}, line(load(0))} {
			list := slices.Repeat([]impl.Line{l}, count)
			refusesLines(t, list)
			refusesLines(t, append(list, line(ret(1))))
		}
	}
}
