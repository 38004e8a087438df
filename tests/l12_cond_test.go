package tests

import (
	"math"
	"math/rand/v2"
	"reflect"
	"slices"
	"strconv"
	"strings"
	"testing"

	"loop.example/g00397/impl"
)

// Promise 12: Lines of a condition go to yes just when it holds.

// What the OpRet behind yes gives, and the one behind no.
const (
	heldEnd   = 1001
	failedEnd = 1002
)

// condLinesSaid are the chapter's sentences of each comparison, a word or a place after the other.
var condLinesSaid = []string{
	1: "load hi; and hi; eq hi a no; place a; load lo; and lo; eq lo yes no",
	2: "load hi; and hi; eq hi a yes; place a; load lo; and lo; eq lo no yes",
	3: "load hi; and hi; more hi no a; place a; eq hi b yes; place b; load lo; and lo; least lo no yes",
	4: "load hi; and hi; more hi no a; place a; eq hi b yes; place b; load lo; and lo; more lo no yes",
	5: "load hi; and hi; more hi yes a; place a; eq hi b no; place b; load lo; and lo; more lo yes no",
	6: "load hi; and hi; more hi yes a; place a; eq hi b no; place b; load lo; and lo; least lo yes no",
}

// condLinesByRule are the lines of those sentences; none of a condition that is not right.
func condLinesByRule(c impl.Cond, base, yes, no string) []impl.Line {
	if !condIsRight(c) {
		return nil
	}
	ops := map[string]int{"eq": 3, "more": 4, "least": 5}
	labels := map[string]string{"a": base + "a", "b": base + "b", "yes": yes, "no": no}
	halves := map[string]struct{ field, mask, val int }{
		"hi": {[]int{3, 5, 7}[c.Arg], c.Mask.Hi, c.Val.Hi},
		"lo": {[]int{2, 4, 6}[c.Arg], c.Mask.Lo, c.Val.Lo},
	}
	var lines []impl.Line
	for _, said := range strings.Split(condLinesSaid[c.Cm], "; ") {
		words := strings.Fields(said)
		half := halves[words[1]]
		l := place(labels[words[1]])
		switch words[0] {
		case "load":
			l = line(load(half.field))
		case "and":
			l = line(and(half.mask))
		case "eq", "more", "least":
			l = asking(ops[words[0]], half.val, labels[words[2]], labels[words[3]])
		}
		lines = append(lines, l)
	}
	return lines
}

func ruleLinesByRule(r impl.Rule, base, no string) []impl.Line {
	var lines []impl.Line
	for i, c := range r.Conds {
		number := strconv.Itoa(i)
		next := base + "n" + number
		lines = append(lines, condLinesByRule(c, base+number, next, no)...)
		lines = append(lines, place(next))
	}
	result := 0
	if r.Action >= 0 && r.Action <= 5 && r.Data >= 0 && r.Data <= 65535 {
		result = 65536*r.Action + r.Data
	}
	return append(lines, line(ret(result)))
}

func condLinesAre(t *testing.T, c impl.Cond, base, yes, no string, want ...impl.Line) {
	t.Helper()
	if got := impl.CondLines(c, base, yes, no); !slices.Equal(got, want) {
		t.Errorf("CondLines of %+v, with %.20q, %.20q and %.20q, are %s; want %s", c, base, yes, no, linesSaid(got), linesSaid(want))
	}
}

func ruleLinesAre(t *testing.T, r impl.Rule, base, no string, want ...impl.Line) {
	t.Helper()
	if got := impl.RuleLines(r, base, no); !slices.Equal(got, want) {
		t.Errorf("RuleLines of %d conditions, with %.20q and %.20q, are %s; want %s", len(r.Conds), base, no, linesSaid(got), linesSaid(want))
	}
}

// withEnds are lines with yes and no behind them, each with an end of its own; what stands between is passed over.
func withEnds(lines []impl.Line, yes, no string, yesFirst bool, between int) []impl.Line {
	held := []impl.Line{place(yes), line(ret(heldEnd))}
	failed := []impl.Line{place(no), line(ret(failedEnd))}
	if !yesFirst {
		held, failed = failed, held
	}
	return slices.Concat(lines, ends(between), held, ends(between), failed)
}

// programOf wants lines that can be laid out, and a program that is let by.
func programOf(t *testing.T, list []impl.Line) []impl.Ins {
	t.Helper()
	words, ok := impl.Layout(list)
	if !ok || !impl.CheckProgram(words) {
		t.Fatalf("Layout of %s = %v, and the program is let by: %v", linesSaid(list), ok, impl.CheckProgram(words))
	}
	return words
}

func endIs(t *testing.T, words []impl.Ins, x impl.Call, want int) {
	t.Helper()
	if got, done := impl.Run(words, x); got != want || done < 1 || done > len(words) {
		t.Errorf("%+v with %+v ends with %d after %d words; want %d", words, x, got, done, want)
	}
}

// goesToYesJustWhenItHolds runs the lines of a right condition, and tells of how many calls it holds.
func goesToYesJustWhenItHolds(t *testing.T, c impl.Cond, calls ...impl.Call) int {
	t.Helper()
	held := 0
	lines := impl.CondLines(c, "x", "y", "n")
	near := programOf(t, withEnds(lines, "y", "n", true, 0))
	far := programOf(t, withEnds(lines, "y", "n", false, 16))
	for _, x := range calls {
		want := failedEnd
		if condByRule(c, x) {
			want = heldEnd
			held++
		}
		condHoldsIs(t, c, x, want == heldEnd)
		endIs(t, near, x, want)
		endIs(t, far, x, want)
	}
	return held
}

// wrapped is a half that is some more, or less, beyond its ends.
func wrapped(half, more int) int { return int(uint32(half + more)) }

// nearWide is often the same as w in both halves, in one alone, changed about, or one more or less.
func nearWide(r *rand.Rand, w impl.Wide) impl.Wide {
	switch r.IntN(12) {
	case 0:
		return w
	case 1:
		return impl.Wide{Hi: w.Hi, Lo: drawnHalf(r)}
	case 2:
		return impl.Wide{Hi: drawnHalf(r), Lo: w.Lo}
	case 3:
		return impl.Wide{Hi: w.Lo, Lo: w.Hi}
	case 4:
		return impl.Wide{Hi: w.Hi, Lo: w.Hi}
	case 5:
		return impl.Wide{Hi: w.Lo, Lo: w.Lo}
	case 6:
		return []impl.Wide{{}, allBits, {Hi: impl.MaxHalf}, {Lo: impl.MaxHalf}}[r.IntN(4)]
	case 7:
		return impl.Wide{Hi: drawnHalf(r), Lo: drawnHalf(r)}
	}
	return impl.Wide{Hi: wrapped(w.Hi, r.IntN(3)-1), Lo: wrapped(w.Lo, r.IntN(3)-1)}
}

// maskedCond has any mask, and a value that can often be what an argument is by that mask.
func maskedCond(r *rand.Rand, cm, arg int) impl.Cond {
	mask := allBits
	switch r.IntN(4) {
	case 0:
		mask = someMasks[r.IntN(len(someMasks))]
	case 1:
		mask = nearWide(r, impl.Wide{Hi: drawnHalf(r), Lo: drawnHalf(r)})
	}
	val := nearWide(r, impl.Wide{Hi: drawnHalf(r), Lo: drawnHalf(r)})
	if r.IntN(4) > 0 {
		val = impl.Wide{Hi: val.Hi & mask.Hi, Lo: val.Lo & mask.Lo}
	}
	return impl.Cond{Arg: arg, Mask: mask, Cm: cm, Val: val}
}

// nearCall has, where the condition looks, nearly its value by its mask, and any bits beside that.
func nearCall(r *rand.Rand, c impl.Cond) impl.Call {
	x := impl.Call{Arch: drawnHalf(r), Num: drawnHalf(r)}
	for range 3 {
		w := nearWide(r, c.Val)
		if r.IntN(2) == 0 {
			w.Hi = w.Hi&c.Mask.Hi | drawnHalf(r)&^c.Mask.Hi
			w.Lo = w.Lo&c.Mask.Lo | drawnHalf(r)&^c.Mask.Lo
		}
		x.Args = append(x.Args, w)
	}
	return x
}

func TestLinesGoToYesJustWhenACondHolds(t *testing.T) {
	r := rand.New(rand.NewPCG(12, 1))
	for _, cm := range sixCms {
		for arg := range 3 {
			held, failed := 0, 0
			for range 300 {
				c := maskedCond(r, cm, arg)
				var calls []impl.Call
				for range 40 {
					calls = append(calls, nearCall(r, c))
				}
				some := goesToYesJustWhenItHolds(t, c, calls...)
				held, failed = held+some, failed+40-some
			}
			if held < 1000 || failed < 1000 {
				t.Errorf("the comparison %d of argument %d holds %d times and fails %d times: too few to tell much", cm, arg, held, failed)
			}
		}
	}
}

// Every two of some wide numbers, whose halves are the same, one more or less, 0, all ones, or changed about.
func TestLinesOfHalvesThatAreTheSame(t *testing.T) {
	wides := widesOf([]int{0, 1, 2, 6, 7, 8, 2147483648, impl.MaxHalf - 1, impl.MaxHalf})
	for _, cm := range sixCms {
		for i, val := range wides {
			arg := i % 3
			var calls []impl.Call
			for _, w := range wides {
				calls = append(calls, withArg(arg, w))
			}
			goesToYesJustWhenItHolds(t, impl.Cond{Arg: arg, Mask: allBits, Cm: cm, Val: val}, calls...)
			goesToYesJustWhenItHolds(t, impl.Cond{Arg: arg, Mask: val, Cm: cm, Val: val}, calls...)
			for _, mask := range someMasks {
				goesToYesJustWhenItHolds(t, impl.Cond{Arg: arg, Mask: mask, Cm: cm, Val: val}, calls[:20]...)
			}
		}
	}
}

func TestLinesOfACondGoWhereTheyShould(t *testing.T) {
	val := impl.Wide{Hi: 5, Lo: 50}
	known := []struct {
		arg  impl.Wide
		want string // of the six in order, y where it holds
	}{
		{impl.Wide{Hi: 5, Lo: 49}, "nyyynn"}, {impl.Wide{Hi: 5, Lo: 50}, "ynnyny"}, {impl.Wide{Hi: 5, Lo: 51}, "nynnyy"},
		{impl.Wide{Hi: 4, Lo: 50}, "nyyynn"}, {impl.Wide{Hi: 6, Lo: 50}, "nynnyy"}, {impl.Wide{Hi: 4, Lo: 51}, "nyyynn"},
		{impl.Wide{Hi: 6, Lo: 49}, "nynnyy"}, {impl.Wide{Hi: 4, Lo: 49}, "nyyynn"}, {impl.Wide{Hi: 6, Lo: 51}, "nynnyy"},
		{impl.Wide{Hi: 50, Lo: 5}, "nynnyy"}, {impl.Wide{}, "nyyynn"}, {impl.Wide{Hi: 4, Lo: impl.MaxHalf}, "nyyynn"}, {allBits, "nynnyy"},
		{impl.Wide{Hi: 5}, "nyyynn"}, {impl.Wide{Hi: 5, Lo: impl.MaxHalf}, "nynnyy"}, {impl.Wide{Hi: 6}, "nynnyy"}, {impl.Wide{Lo: 50}, "nyyynn"},
	}
	for _, cm := range sixCms {
		for at := range 3 {
			c := impl.Cond{Arg: at, Mask: allBits, Cm: cm, Val: val}
			words := programOf(t, withEnds(impl.CondLines(c, "x", "y", "n"), "y", "n", false, 0))
			for _, k := range known {
				want := failedEnd
				if k.want[cm-1] == 'y' {
					want = heldEnd
				}
				endIs(t, words, withArg(at, k.arg), want)
			}
		}
	}
}

// The argument alone is masked: one bit of one half, beside a value with other bits or none.
func TestLinesOfACondByItsMask(t *testing.T) {
	for bit := range 32 {
		one := 1 << bit
		for _, mask := range []impl.Wide{{Hi: one}, {Lo: one}, {Hi: impl.MaxHalf ^ one, Lo: impl.MaxHalf}, {Hi: impl.MaxHalf, Lo: impl.MaxHalf ^ one}} {
			for _, val := range []impl.Wide{{}, mask, allBits, {Hi: one}, {Lo: one}, {Hi: one, Lo: one}} {
				for _, cm := range sixCms {
					c := impl.Cond{Arg: bit % 3, Mask: mask, Cm: cm, Val: val}
					goesToYesJustWhenItHolds(t, c, withArg(c.Arg, impl.Wide{}), withArg(c.Arg, allBits), withArg(c.Arg, mask), withArg(c.Arg, impl.Wide{Hi: one}),
						withArg(c.Arg, impl.Wide{Lo: one}), withArg(c.Arg, impl.Wide{Hi: allBits.Hi ^ mask.Hi, Lo: allBits.Lo ^ mask.Lo}), plainCall())
				}
			}
		}
	}
}

// Each half that is asked for is the argument's own: no other number of the call leads elsewhere.
func TestLinesOfACondLookAtItsArgAlone(t *testing.T) {
	r := rand.New(rand.NewPCG(12, 2))
	for _, cm := range sixCms {
		for arg := range 3 {
			for range 50 {
				c := maskedCond(r, cm, arg)
				words := programOf(t, withEnds(impl.CondLines(c, "x", "y", "n"), "y", "n", true, 0))
				x := nearCall(r, c)
				want, _ := impl.Run(words, x)
				for range 20 {
					other := nearCall(r, c)
					other.Args[arg] = x.Args[arg]
					endIs(t, words, other, want)
				}
			}
		}
	}
}

// Where both ways have one label, both come to it.
func TestLinesOfACondWithOneLabel(t *testing.T) {
	for _, cm := range sixCms {
		for _, val := range widesOf([]int{0, 10, 11, impl.MaxHalf}) {
			lines := impl.CondLines(impl.Cond{Arg: 0, Mask: allBits, Cm: cm, Val: val}, "x", "e", "e")
			words := programOf(t, slices.Concat(lines, []impl.Line{line(ret(1)), place("e"), line(ret(2))}))
			for _, x := range rightCalls() {
				endIs(t, words, x, 2)
			}
		}
	}
}

func TestCondLinesKnown(t *testing.T) {
	c := impl.Cond{Arg: 0, Mask: impl.Wide{Hi: 1, Lo: 2}, Cm: impl.CmEq, Val: impl.Wide{Hi: 3, Lo: 4}}
	condLinesAre(t, c, "x", "y", "n",
		line(load(3)), line(and(1)), asking(impl.OpEq, 3, "xa", "n"), place("xa"),
		line(load(2)), line(and(2)), asking(impl.OpEq, 4, "y", "n"))
	c.Cm = impl.CmNot
	condLinesAre(t, c, "x", "y", "n",
		line(load(3)), line(and(1)), asking(impl.OpEq, 3, "xa", "y"), place("xa"),
		line(load(2)), line(and(2)), asking(impl.OpEq, 4, "n", "y"))
	c.Cm, c.Arg = impl.CmMore, 1
	condLinesAre(t, c, "x", "y", "n",
		line(load(5)), line(and(1)), asking(impl.OpMore, 3, "y", "xa"), place("xa"), asking(impl.OpEq, 3, "xb", "n"), place("xb"),
		line(load(4)), line(and(2)), asking(impl.OpMore, 4, "y", "n"))
	c.Cm = impl.CmLeast
	condLinesAre(t, c, "x", "y", "n",
		line(load(5)), line(and(1)), asking(impl.OpMore, 3, "y", "xa"), place("xa"), asking(impl.OpEq, 3, "xb", "n"), place("xb"),
		line(load(4)), line(and(2)), asking(impl.OpLeast, 4, "y", "n"))
	c.Cm, c.Arg = impl.CmMost, 2
	condLinesAre(t, c, "x", "y", "n",
		line(load(7)), line(and(1)), asking(impl.OpMore, 3, "n", "xa"), place("xa"), asking(impl.OpEq, 3, "xb", "y"), place("xb"),
		line(load(6)), line(and(2)), asking(impl.OpMore, 4, "n", "y"))
	c.Cm = impl.CmLess
	condLinesAre(t, c, "x", "y", "n",
		line(load(7)), line(and(1)), asking(impl.OpMore, 3, "n", "xa"), place("xa"), asking(impl.OpEq, 3, "xb", "y"), place("xb"),
		line(load(6)), line(and(2)), asking(impl.OpLeast, 4, "n", "y"))
}

func TestCondLinesAreAsTheChapterSays(t *testing.T) {
	r := rand.New(rand.NewPCG(12, 3))
	labels := []string{"x", "y", "n", "ta", "base", "long and longer", ""}
	label := func() string { return labels[r.IntN(len(labels))] }
	for i := range 6000 {
		c := maskedCond(r, 1+i%6, i/6%3)
		base, yes, no := label(), label(), label()
		condLinesAre(t, c, base, yes, no, condLinesByRule(c, base, yes, no)...)
	}
	for _, cm := range sixCms {
		for _, mask := range widesOf([]int{0, 1, impl.MaxHalf}) {
			for _, val := range widesOf([]int{0, 1, impl.MaxHalf}) {
				for arg := range 3 {
					c := impl.Cond{Arg: arg, Mask: mask, Cm: cm, Val: val}
					condLinesAre(t, c, "c", "yes", "no", condLinesByRule(c, "c", "yes", "no")...)
				}
			}
		}
	}
}

// The two halves' fields are those that FieldAt tells of the argument.
func TestCondLinesLoadTheHalvesOfTheirArg(t *testing.T) {
	x := plainCall()
	for _, cm := range sixCms {
		for arg := range 3 {
			var loaded []int
			for _, l := range impl.CondLines(impl.Cond{Arg: arg, Mask: allBits, Cm: cm}, "x", "y", "n") {
				if l.Ins.Op == impl.OpLoad {
					field, _ := impl.FieldAt(x, l.Ins.K)
					loaded = append(loaded, field)
				}
			}
			if want := []int{x.Args[arg].Hi, x.Args[arg].Lo}; !slices.Equal(loaded, want) {
				t.Errorf("the comparison %d of argument %d loads %v; want %v", cm, arg, loaded, want)
			}
		}
	}
}

// What fails where another holds has its lines, with yes and no changed about.
func TestCondLinesWithYesAndNoChangedAbout(t *testing.T) {
	r := rand.New(rand.NewPCG(12, 4))
	pairs := [][2]int{{impl.CmMost, impl.CmMore}, {impl.CmLess, impl.CmLeast}, {impl.CmNot, impl.CmEq}}
	for i := range 600 {
		pair := pairs[i%3]
		c := maskedCond(r, pair[0], i%7%3)
		other := c
		other.Cm = pair[1]
		condLinesAre(t, c, "x", "y", "n", impl.CondLines(other, "x", "n", "y")...)
		condLinesAre(t, other, "x", "y", "n", impl.CondLines(c, "x", "n", "y")...)
		condLinesAre(t, c, "x", "n", "y", impl.CondLines(other, "x", "y", "n")...)
	}
}

// Each reason alone, at each of the six where that is not the reason.
func TestCondLinesOfWhatIsNotRight(t *testing.T) {
	for _, c := range wrongConds() {
		condLinesAre(t, c, "x", "y", "n")
		condLinesAre(t, c, "", "", "")
		for _, cm := range sixCms {
			if slices.Contains(sixCms, c.Cm) {
				c.Cm = cm
				condLinesAre(t, c, "x", "y", "n")
			}
		}
		for arg := range 3 {
			if c.Arg >= 0 && c.Arg < 3 {
				c.Arg = arg
				condLinesAre(t, c, "x", "y", "n")
			}
		}
	}
	condLinesAre(t, impl.Cond{}, "x", "y", "n")
	for _, arg := range []int{-1, 0, 1, 2, 3} {
		for cm := -1; cm < 9; cm++ {
			for _, half := range []int{-1, 0, impl.MaxHalf, impl.MaxHalf + 1} {
				c := impl.Cond{Arg: arg, Mask: impl.Wide{Hi: half, Lo: half}, Cm: cm, Val: impl.Wide{Hi: half, Lo: half}}
				condLinesAre(t, c, "x", "y", "n", condLinesByRule(c, "x", "y", "n")...)
			}
		}
	}
}

// someLabels are empty, of any bytes, of any length, and such as the lines' own are.
func someLabels() []string {
	labels := []string{"", "a", "b", "n", "x", "xa", "xb", "0", "n0", "xn0", "x0a", "\x00", "\xff", "\xc3", "é", " ", "a b", "\n", "\U0001f600", "\xe2\x82", allBytes(256), strings.Repeat("long", 5000)}
	for size := 9; size < 15; size++ {
		labels = append(labels, strings.Repeat("l", size))
	}
	return labels
}

// The lines are as the chapter says, whether or not LinesOk lets them by.
func TestCondLinesOfLabels(t *testing.T) {
	labels := someLabels()
	for i, base := range labels {
		for j, yes := range labels {
			for k, no := range labels {
				c := impl.Cond{Arg: (i + j) % 3, Mask: allBits, Cm: 1 + (i+j+k)%6, Val: impl.Wide{Hi: j, Lo: k}}
				lines := condLinesByRule(c, base, yes, no)
				condLinesAre(t, c, base, yes, no, lines...)
				// LinesOk tells by itself of labels that stand twice, or are too long.
				list := withEnds(impl.CondLines(c, base, yes, no), yes, no, true, 0)
				linesOkIs(t, list, linesAreRight(list))
			}
		}
	}
}

// The label of its own is base and one letter: a base of 11 bytes is the longest that LinesOk lets by.
func TestCondLinesOfBasesJustWithinALabel(t *testing.T) {
	for size := range 20 {
		for _, cm := range sixCms {
			base := strings.Repeat("z", size)
			c := impl.Cond{Mask: allBits, Cm: cm, Val: impl.Wide{Hi: 11, Lo: 10}}
			list := withEnds(impl.CondLines(c, base, "y", "n"), "y", "n", true, 0)
			linesOkIs(t, list, size <= 11)
			if size <= 11 {
				isLaidOut(t, list, rightCalls()...)
			}
		}
	}
}

// holdsOf are conditions that often hold of a call, so that many of them in a row do.
func holdsOf(r *rand.Rand, x impl.Call, count int) []impl.Cond {
	var conds []impl.Cond
	for len(conds) < count {
		c := maskedCond(r, 1+r.IntN(6), r.IntN(3))
		if condByRule(c, x) || r.IntN(4*count) == 0 {
			conds = append(conds, c)
		}
	}
	return conds
}

func TestRuleLinesGiveTheResultJustWhenAllCondsHold(t *testing.T) {
	r := rand.New(rand.NewPCG(12, 5))
	for count := range 26 {
		held, failed := 0, 0
		for range 60 {
			x := nearCall(r, maskedCond(r, 1, 0))
			rule := impl.Rule{Conds: holdsOf(r, x, count), Action: r.IntN(6), Data: dataEdges[r.IntN(len(dataEdges))]}
			list := append(impl.RuleLines(rule, "r", "n"), place("n"), line(ret(failedEnd)))
			words := programOf(t, list)
			calls := []impl.Call{x}
			for range 8 {
				calls = append(calls, drawnCall(r), nearCall(r, maskedCond(r, 1, 0)))
			}
			for i, c := range rule.Conds {
				// As it was, but for the one that a condition looks at.
				other := impl.Call{Arch: x.Arch, Num: i, Args: slices.Clone(x.Args)}
				other.Args[c.Arg] = nearWide(r, c.Val)
				calls = append(calls, other)
			}
			for _, call := range calls {
				want := failedEnd
				if ruleByRule(rule, call) {
					want = 65536*rule.Action + rule.Data
					held++
				} else {
					failed++
				}
				ruleHoldsIs(t, rule, call, want != failedEnd)
				endIs(t, words, call, want)
			}
		}
		if held < 40 || failed < 40 && count > 0 {
			t.Errorf("rules of %d conditions hold %d times and fail %d times: too few to tell much", count, held, failed)
		}
	}
}

// One condition that fails is enough, at whichever place.
func TestRuleLinesWithOneCondThatFails(t *testing.T) {
	for _, count := range []int{1, 2, 3, 9, 10, 11, 12, 25, 32} {
		conds := make([]impl.Cond, count)
		for i := range conds {
			conds[i] = anyCond(i % 3)
		}
		holds := condRule(impl.ActLog, 7, conds...)
		endIs(t, programOf(t, append(impl.RuleLines(holds, "r", "n"), place("n"), line(ret(failedEnd)))), plainCall(), 65536*4+7)
		for at := range conds {
			fails := condRule(impl.ActLog, 7, slices.Clone(conds)...)
			fails.Conds[at] = failingCond()
			endIs(t, programOf(t, append(impl.RuleLines(fails, "r", "n"), place("n"), line(ret(failedEnd)))), plainCall(), failedEnd)
		}
	}
}

func TestRuleLinesKnown(t *testing.T) {
	ruleLinesAre(t, anyRule(impl.ActAllow, 0), "r", "n", line(ret(327680)))
	ruleLinesAre(t, numRule(impl.ActErr, 13, 1, 2, 3), "r", "n", line(ret(131085)))
	eq := impl.Cond{Arg: 2, Mask: impl.Wide{Hi: 1, Lo: 2}, Cm: impl.CmEq, Val: impl.Wide{Hi: 3, Lo: 4}}
	least := impl.Cond{Arg: 0, Mask: impl.Wide{Hi: 5, Lo: 6}, Cm: impl.CmLeast, Val: impl.Wide{Hi: 7, Lo: 8}}
	ruleLinesAre(t, condRule(impl.ActTrap, 65535, eq, least), "r", "out",
		line(load(7)), line(and(1)), asking(impl.OpEq, 3, "r0a", "out"), place("r0a"),
		line(load(6)), line(and(2)), asking(impl.OpEq, 4, "rn0", "out"), place("rn0"),
		line(load(3)), line(and(5)), asking(impl.OpMore, 7, "rn1", "r1a"), place("r1a"), asking(impl.OpEq, 7, "r1b", "out"), place("r1b"),
		line(load(2)), line(and(6)), asking(impl.OpLeast, 8, "rn1", "out"), place("rn1"),
		line(ret(131071)))
}

// 0, 1, 2, 3 and many: from the eleventh condition on Decimal of its place has two figures, and then three.
func TestRuleLinesAreAsTheChapterSays(t *testing.T) {
	r := rand.New(rand.NewPCG(12, 6))
	for _, count := range []int{0, 1, 2, 3, 4, 9, 10, 11, 12, 99, 100, 101, 102, 999, 1000, 1001} {
		for _, base := range []string{"", "r", "tha", "\xff0", "1", "n"} {
			rule := drawnRule(r)
			rule.Conds = nil
			for range count {
				rule.Conds = append(rule.Conds, maskedCond(r, 1+r.IntN(6), r.IntN(3)))
			}
			ruleLinesAre(t, rule, base, "no", ruleLinesByRule(rule, base, "no")...)
		}
	}
	rule := condRule(impl.ActLog, 0, slices.Repeat([]impl.Cond{plainCond()}, 12)...)
	lines := impl.RuleLines(rule, "r", "n")
	if len(lines) != 97 || lines[11].Label != "r1a" || lines[83].Label != "r10a" || lines[87].Label != "rn10" || lines[86].Yes != "rn10" || lines[95].Label != "rn11" {
		t.Errorf("RuleLines of twelve conditions are %s", linesSaid(lines))
	}
}

// The conditions of a rule tell its lines, not its Nums.
func TestRuleLinesOfNums(t *testing.T) {
	for _, nums := range [][]int{nil, {}, {1}, {1, 2, 3, 4}, {2, 1}, {1, 1}, {-1}, {1, 2, 3, 4, 5}, make([]int, 1000)} {
		rule := impl.Rule{Nums: nums, Conds: []impl.Cond{plainCond()}, Action: impl.ActLog, Data: 1}
		ruleLinesAre(t, rule, "r", "n", ruleLinesByRule(rule, "r", "n")...)
		ruleLinesAre(t, rule, "r", "n", impl.RuleLines(condRule(impl.ActLog, 1, plainCond()), "r", "n")...)
	}
}

// Of a condition that is not right the place alone stands there: it is passed by.
func TestRuleLinesOfCondsThatAreNotRight(t *testing.T) {
	for _, c := range wrongConds() {
		ruleLinesAre(t, condRule(impl.ActLog, 1, c), "r", "n", place("rn0"), line(ret(262145)))
		ruleLinesAre(t, condRule(impl.ActLog, 1, c, c), "r", "n", place("rn0"), place("rn1"), line(ret(262145)))
		for at := range 3 {
			rule := condRule(impl.ActLog, 1, plainCond(), plainCond(), plainCond())
			rule.Conds[at] = c
			ruleLinesAre(t, rule, "r", "n", ruleLinesByRule(rule, "r", "n")...)
			words := programOf(t, append(impl.RuleLines(rule, "r", "n"), place("n"), line(ret(failedEnd))))
			endIs(t, words, plainCall(), 262145)
			endIs(t, words, withArg(0, impl.Wide{Hi: 11, Lo: 11}), failedEnd)
		}
	}
}

func TestRuleLinesOfActions(t *testing.T) {
	for _, action := range slices.Concat(actionNumbers, noActions) {
		for _, data := range slices.Concat(dataEdges, noData) {
			for _, conds := range [][]impl.Cond{nil, {plainCond()}} {
				rule := condRule(action, data, conds...)
				ruleLinesAre(t, rule, "r", "n", ruleLinesByRule(rule, "r", "n")...)
				if lines := impl.RuleLines(rule, "r", "n"); lines[len(lines)-1] != line(ret(impl.ResultOf(action, data))) {
					t.Errorf("RuleLines of action %d and %d end with %+v", action, data, lines[len(lines)-1])
				}
			}
		}
	}
}

func TestRuleLinesOfLabels(t *testing.T) {
	labels := someLabels()
	more := impl.Cond{Arg: 1, Mask: allBits, Cm: impl.CmMore, Val: impl.Wide{Lo: 5}}
	for _, base := range labels {
		for _, no := range labels {
			rule := condRule(impl.ActLog, 1, plainCond(), more, anyCond(2))
			ruleLinesAre(t, rule, base, no, ruleLinesByRule(rule, base, no)...)
			list := append(impl.RuleLines(rule, base, no), place(no), line(ret(failedEnd)))
			linesOkIs(t, list, linesAreRight(list))
			ruleLinesAre(t, anyRule(impl.ActLog, 1), base, no, line(ret(262145)))
		}
	}
}

// condRoom is a rule whose lists have something in the spare room behind them.
func condRoom(count int) impl.Rule {
	conds := []impl.Cond{plainCond(), anyCond(1), {Arg: 2, Mask: allBits, Cm: impl.CmLess, Val: allBits}, failingCond(), {Arg: 77}}
	return impl.Rule{Nums: []int{1, 2, 77}[:2], Conds: conds[:count], Action: impl.ActLog}
}

func TestCondLinesWriteIntoNothing(t *testing.T) {
	for count := range 6 {
		rule := condRoom(count)
		lines := impl.RuleLines(rule, "r", "n")
		for _, c := range rule.Conds {
			lines = append(lines, impl.CondLines(c, "x", "y", "n")...)
		}
		clear(lines[:cap(lines)])
		if !reflect.DeepEqual(condRoom(count).Conds[:5], rule.Conds[:5]) || !slices.Equal(rule.Nums[:3], []int{1, 2, 77}) {
			t.Errorf("with %d conditions something was written into an argument or behind it", count)
		}
	}
}

func TestCondLinesAreNewMemory(t *testing.T) {
	base, yes, no := strings.Clone("some base"), strings.Clone("some yes"), strings.Clone("some no")
	rule := condRule(impl.ActLog, 1, plainCond(), failingCond(), anyCond(1))
	for _, cm := range sixCms {
		rule.Conds[1].Cm = cm
		lines := slices.Concat(impl.CondLines(rule.Conds[1], base, yes, no), impl.RuleLines(rule, base, no), impl.CondLines(rule.Conds[1], "", yes, no), impl.RuleLines(rule, "", no))
		for _, l := range lines {
			for _, label := range []string{l.Label, l.Yes, l.No} {
				if sharesMemory(label, base) || sharesMemory(label, yes) || sharesMemory(label, no) {
					t.Fatalf("a line of the comparison %d shares its label %q with an argument", cm, label)
				}
			}
		}
		first, second := impl.CondLines(rule.Conds[1], "x", "y", "n"), impl.RuleLines(rule, "r", "n")
		clear(impl.CondLines(rule.Conds[1], "x", "y", "n"))
		clear(impl.RuleLines(rule, "r", "n"))
		condLinesAre(t, rule.Conds[1], "x", "y", "n", first...)
		ruleLinesAre(t, rule, "r", "n", second...)
		// What is not right leaves nothing behind.
		condLinesAre(t, impl.Cond{Arg: 9, Mask: allBits, Cm: cm}, "x", "y", "n")
		condLinesAre(t, rule.Conds[1], "x", "y", "n", first...)
	}
}

// Whatever comes in, both answer, the same each time.
func TestCondLinesAnswerAtEveryArgument(t *testing.T) {
	numbers := slices.Concat(noArgs, noCms, noHalves, []int{0, 1, 2, 3, 5, 6, 62, math.MinInt, math.MaxInt, impl.MaxHalf})
	long := strings.Repeat("label", 200000)
	labels := []string{"", "a", "\x00", "\xff\xfe", "abcdefghijkl", "abcdefghijklm"}
	r := rand.New(rand.NewPCG(12, 7))
	number := func() int {
		if r.IntN(2) == 0 {
			return 1 + r.IntN(2)
		}
		return numbers[r.IntN(len(numbers))]
	}
	label := func() string { return labels[r.IntN(len(labels))] }
	for range 20000 {
		rule := impl.Rule{Action: number(), Data: number()}
		for range r.IntN(5) {
			c := impl.Cond{Arg: number(), Mask: impl.Wide{Hi: number(), Lo: number()}, Cm: number(), Val: impl.Wide{Hi: number(), Lo: number()}}
			base, yes, no := label(), label(), label()
			condLinesAre(t, c, base, yes, no, condLinesByRule(c, base, yes, no)...)
			rule.Conds = append(rule.Conds, c)
		}
		base, no := label(), label()
		ruleLinesAre(t, rule, base, no, ruleLinesByRule(rule, base, no)...)
		ruleLinesAre(t, rule, base, no, ruleLinesByRule(rule, base, no)...)
	}
	for _, cm := range sixCms {
		c := plainCond()
		c.Cm = cm
		condLinesAre(t, c, long, long+"y", long+"n", condLinesByRule(c, long, long+"y", long+"n")...)
		rule := condRule(impl.ActLog, 1, c, c, c)
		ruleLinesAre(t, rule, long, long, ruleLinesByRule(rule, long, long)...)
		many := condRule(impl.ActLog, 1, slices.Repeat([]impl.Cond{c}, 20000)...)
		ruleLinesAre(t, many, "r", "n", ruleLinesByRule(many, "r", "n")...)
	}
	ruleLinesAre(t, impl.Rule{}, "", "", line(ret(0)))
	ruleLinesAre(t, impl.Rule{Nums: make([]int, 100000), Conds: make([]impl.Cond, 3)}, "", "", place("n0"), place("n1"), place("n2"), line(ret(0)))
}
