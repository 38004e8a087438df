package tests

import (
	"math/rand/v2"
	"slices"
	"testing"

	"loop.example/g00397/impl"
)

// Promise 7: What was looked over always ends, in no more steps than it has words.

// leadsTo are the places to which one may go from a word, by the document's sentences.
func leadsTo(x impl.Ins, at int) []int {
	switch {
	case x.Op == 8:
		return nil
	case x.Op == 7:
		return []int{at + 1 + x.K}
	case asks(x.Op):
		return []int{at + 1 + x.Yes, at + 1 + x.No}
	}
	return []int{at + 1}
}

func programIsRight(list []impl.Ins) bool {
	if len(list) < 1 || len(list) > 400 || list[len(list)-1].Op != 8 {
		return false
	}
	for at, x := range list {
		if !wordIsRight(x) {
			return false
		}
		for _, place := range leadsTo(x, at) {
			if place >= len(list) {
				return false
			}
		}
	}
	return true
}

// fieldsOf are a right call's fields, in the order of their places.
func fieldsOf(c impl.Call) []int {
	return []int{c.Num, c.Arch, c.Args[0].Lo, c.Args[0].Hi, c.Args[1].Lo, c.Args[1].Hi, c.Args[2].Lo, c.Args[2].Hi}
}

func answerOf(op, register, k int) bool {
	return []bool{3: register == k, 4: register > k, 5: register >= k, 6: uint32(register)&uint32(k) > 0}[op]
}

// endFrom is the result and the words done from one place on, of a program that is right.
func endFrom(list []impl.Ins, fields []int, at, register int) (int, int) {
	x := list[at]
	places := leadsTo(x, at)
	switch {
	case len(places) == 0:
		return x.K, 1
	case len(places) == 2 && !answerOf(x.Op, register, x.K):
		places = places[1:]
	case x.Op == 1:
		register = fields[x.K]
	case x.Op == 2:
		register = int(uint32(register) & uint32(x.K))
	}
	result, words := endFrom(list, fields, places[0], register)
	return result, words + 1
}

// comesTo marks all places that one can come to from one on.
func comesTo(list []impl.Ins, at int, marks []bool) {
	if marks[at] {
		return
	}
	marks[at] = true
	for _, place := range leadsTo(list[at], at) {
		comesTo(list, place, marks)
	}
}

// retsOf are the results that a program has at all.
func retsOf(list []impl.Ins) []int {
	var rets []int
	for _, x := range list {
		if x.Op == impl.OpRet {
			rets = append(rets, x.K)
		}
	}
	return rets
}

func load(k int) impl.Ins { return impl.Ins{Op: impl.OpLoad, K: k} }

func and(k int) impl.Ins { return impl.Ins{Op: impl.OpAnd, K: k} }

func ask(op, k, yes, no int) impl.Ins { return impl.Ins{Op: op, K: k, Yes: yes, No: no} }

func jump(k int) impl.Ins { return impl.Ins{Op: impl.OpJump, K: k} }

func ret(k int) impl.Ins { return impl.Ins{Op: impl.OpRet, K: k} }

func rets(count int) []impl.Ins {
	list := make([]impl.Ins, count)
	for i := range list {
		list[i] = ret(100 + i)
	}
	return list
}

// withWord is the list with another word at one place.
func withWord(list []impl.Ins, at int, x impl.Ins) []impl.Ins {
	list = slices.Clone(list)
	list[at] = x
	return list
}

// ofNum is plainCall with another Num.
func ofNum(num int) impl.Call {
	c := plainCall()
	c.Num = num
	return c
}

func checkIs(t *testing.T, list []impl.Ins, want bool) {
	t.Helper()
	if got := impl.CheckProgram(list); got != want {
		t.Errorf("CheckProgram of %d words, %+v, = %v; want %v", len(list), list[:min(len(list), 20)], got, want)
	}
}

func runIs(t *testing.T, list []impl.Ins, c impl.Call, result, words int) {
	t.Helper()
	if r, n := impl.Run(list, c); r != result || n != words {
		t.Errorf("Run of %d words, %+v, with %+v = %d, %d; want %d, %d", len(list), list[:min(len(list), 20)], c, r, n, result, words)
	}
}

func reachedIs(t *testing.T, list []impl.Ins, want ...bool) {
	t.Helper()
	if got := impl.Reached(list); !slices.Equal(got, want) {
		t.Errorf("Reached of %d words, %+v, = %v; want %v", len(list), list[:min(len(list), 20)], got, want)
	}
}

// refusesToRun holds where a program is not let by: nothing is run nor reached.
func refusesToRun(t *testing.T, list []impl.Ins) {
	t.Helper()
	checkIs(t, list, false)
	runIs(t, list, plainCall(), 0, 0)
	reachedIs(t, list)
}

// isLetBy holds all three functions against the document's sentences.
func isLetBy(t *testing.T, list []impl.Ins, calls ...impl.Call) {
	t.Helper()
	checkIs(t, list, true)
	for _, c := range calls {
		result, words := endFrom(list, fieldsOf(c), 0, 0)
		runIs(t, list, c, result, words)
		if !slices.Contains(retsOf(list), result) || words < 1 || words > len(list) {
			t.Fatalf("the rule itself ends with %d after %d of %d words", result, words, len(list))
		}
	}
	marks := make([]bool, len(list))
	comesTo(list, 0, marks)
	reachedIs(t, list, marks...)
}

// drawnWord keeps its ways within room words; its K is often one that a call has.
func drawnWord(r *rand.Rand, room int) impl.Ins {
	ks := []int{0, 1, 10, 11, 20, 21, 30, 31, 62, 65535, 2147483648, 4294967294, 4294967295}
	k := ks[r.IntN(len(ks))]
	way := func(most int) int { return r.IntN(min(most, room) + 1) }
	switch op := 1 + r.IntN(40); {
	case op <= 10:
		return load(r.IntN(8))
	case op <= 14:
		return and(k)
	case op <= 17:
		return jump(way(5))
	case op == 18:
		return jump(way(room))
	case op == 19:
		return ret(r.IntN(1000))
	default:
		return ask(askOps[op%4], k, way(15), way(15))
	}
}

func drawnProgram(r *rand.Rand, size int) []impl.Ins {
	list := make([]impl.Ins, size)
	for i := range size - 1 {
		list[i] = drawnWord(r, size-2-i)
	}
	list[size-1] = ret(r.IntN(1000))
	return list
}

func TestLookedOverAlwaysEnds(t *testing.T) {
	calls := rightCalls()
	r := rand.New(rand.NewPCG(7, 1))
	for i := range 3000 {
		list := drawnProgram(r, 1+i%impl.MaxProgram)
		seen := retsOf(list)
		for range 8 {
			c := calls[r.IntN(len(calls))]
			result, words := impl.Run(list, c)
			if !slices.Contains(seen, result) || words < 1 || words > len(list) {
				t.Fatalf("a program of %d words ends with %d after %d words: %+v", len(list), result, words, list)
			}
			isLetBy(t, list, c)
		}
	}
}

// The same of words that nobody chose: whatever is let by ends, and the rest is not run.
func TestWhateverIsLetByEnds(t *testing.T) {
	r := rand.New(rand.NewPCG(7, 2))
	words, letBy := append(rightWords(), wrongWords()...), 0
	for range 60000 {
		list := make([]impl.Ins, 1+r.IntN(9))
		for i := range list {
			list[i] = drawnWord(r, r.IntN(12))
			if r.IntN(50) == 0 {
				list[i] = words[r.IntN(len(words))]
			}
		}
		if r.IntN(8) > 0 {
			list[len(list)-1] = ret(r.IntN(9))
		}
		if programIsRight(list) {
			letBy++
			isLetBy(t, list, plainCall(), ofNum(impl.MaxHalf))
		} else {
			refusesToRun(t, list)
		}
	}
	if letBy < 1000 || letBy > 59000 {
		t.Errorf("of 60000 lists %d are let by, too few or too many to tell much", letBy)
	}
}

// The most words that can be done are all of them, and the fewest is one.
func TestRunOfTheMostAndTheFewestWords(t *testing.T) {
	for _, size := range []int{1, 2, 3, 16, 17, 18, 399, 400} {
		for _, x := range []impl.Ins{load(0), and(7), jump(0), ask(impl.OpEq, 0, 0, 0), ask(impl.OpMore, 0, 0, 0)} {
			list := append(slices.Repeat([]impl.Ins{x}, size-1), ret(9))
			isLetBy(t, list, plainCall())
			runIs(t, list, plainCall(), 9, size)
		}
		runIs(t, append([]impl.Ins{ret(5)}, rets(size-1)...), plainCall(), 5, 1)
	}
	runIs(t, append(append([]impl.Ins{jump(398)}, rets(398)...), ret(9)), plainCall(), 9, 2)
}

func TestCheckProgramOfSizes(t *testing.T) {
	refusesToRun(t, nil)
	refusesToRun(t, []impl.Ins{})
	refusesToRun(t, make([]impl.Ins, 0, 5))
	for size := 1; size <= impl.MaxProgram; size++ {
		isLetBy(t, rets(size), plainCall())
		isLetBy(t, append(slices.Repeat([]impl.Ins{load(2)}, size-1), ret(1)), plainCall())
	}
	for _, size := range []int{impl.MaxProgram + 1, impl.MaxProgram + 2, 2 * impl.MaxProgram, 1000, 65536, 65537} {
		refusesToRun(t, rets(size))
		refusesToRun(t, append(slices.Repeat([]impl.Ins{load(2)}, size-1), ret(1)))
	}
}

func TestCheckProgramWithAWrongWord(t *testing.T) {
	for _, size := range []int{1, 2, 3, 40, impl.MaxProgram} {
		for _, at := range []int{0, size / 2, size - 1} {
			list := rets(size)
			for _, x := range wrongWords() {
				checkIs(t, withWord(list, at, x), false)
			}
			for _, x := range []impl.Ins{{}, {Op: 9}, load(8), load(-1), and(-1), jump(400), jump(-1), ask(3, 0, 16, 0), ask(6, 0, 0, -1), ret(-1), ret(4294967296), {Op: 8, Yes: 1}, {Op: 8, No: 1}} {
				refusesToRun(t, withWord(list, at, x))
			}
		}
	}
}

func TestCheckProgramOfTheLastWord(t *testing.T) {
	for _, size := range []int{1, 2, 3, 17, 40, impl.MaxProgram} {
		isLetBy(t, rets(size), plainCall())
		for op := 1; op <= 7; op++ {
			for _, k := range []int{0, 1, 7} {
				refusesToRun(t, withWord(rets(size), size-1, impl.Ins{Op: op, K: k}))
			}
		}
		for _, op := range askOps {
			refusesToRun(t, withWord(rets(size), size-1, ask(op, 5, 1, 2)))
		}
		for _, k := range []int{0, 1, 65535, 393215, impl.MaxHalf} {
			isLetBy(t, withWord(rets(size), size-1, ret(k)), plainCall())
		}
	}
	// An OpRet elsewhere does not stand for the last one, though it is always come to.
	refusesToRun(t, []impl.Ins{ret(1), load(0)})
	refusesToRun(t, []impl.Ins{ret(1), ret(2), jump(0)})
}

// A question leads just to the last word, or by one past it: Yes and No, each by itself.
func TestCheckProgramOfWaysToTheLastWord(t *testing.T) {
	for _, size := range []int{2, 3, 4, 10, 16, 17, 18, 100, impl.MaxProgram} {
		for room := 0; room <= min(15, size-2); room++ {
			at, list := size-2-room, rets(size)
			for _, op := range askOps {
				isLetBy(t, withWord(list, at, ask(op, 1, room, 0)), plainCall())
				isLetBy(t, withWord(list, at, ask(op, 1, 0, room)), plainCall())
				isLetBy(t, withWord(list, at, ask(op, 1, room, room)), plainCall())
				refusesToRun(t, withWord(list, at, ask(op, 1, room+1, 0)))
				refusesToRun(t, withWord(list, at, ask(op, 1, 0, room+1)))
				refusesToRun(t, withWord(list, at, ask(op, 1, room+1, room)))
				refusesToRun(t, withWord(list, at, ask(op, 1, room, room+1)))
				refusesToRun(t, withWord(list, at, ask(op, 1, room+1, room+1)))
			}
		}
	}
}

func TestCheckProgramOfJumpsToTheLastWord(t *testing.T) {
	for _, size := range []int{2, 3, 4, 10, 17, 100, 255, 256, 257, 258, impl.MaxProgram} {
		for at := range size - 1 {
			room := size - 2 - at
			isLetBy(t, withWord(rets(size), at, jump(room)), plainCall())
			if room > 0 {
				isLetBy(t, withWord(rets(size), at, jump(room-1)), plainCall())
			}
			checkIs(t, withWord(rets(size), at, jump(room+1)), false)
			checkIs(t, withWord(rets(size), at, jump(room+2)), false)
			checkIs(t, withWord(rets(size), at, jump(399)), false)
		}
		refusesToRun(t, withWord(rets(size), 0, jump(size-1)))
	}
}

// The word just ahead of the last one has no room at all.
func TestCheckProgramOfTheWordAheadOfTheLast(t *testing.T) {
	for _, size := range []int{2, 3, 17, impl.MaxProgram} {
		at, list := size-2, rets(size)
		for op := 1; op <= 8; op++ {
			isLetBy(t, withWord(list, at, impl.Ins{Op: op}), plainCall())
		}
		for way := 1; way <= 15; way++ {
			for _, op := range askOps {
				refusesToRun(t, withWord(list, at, ask(op, 0, way, 0)))
				refusesToRun(t, withWord(list, at, ask(op, 0, 0, way)))
			}
			refusesToRun(t, withWord(list, at, jump(way)))
		}
	}
}

// MaxJump words are passed over at each place of a long program that has them.
func TestCheckProgramOfLongWays(t *testing.T) {
	for at := range impl.MaxProgram - 1 {
		fits := at+1+15 <= impl.MaxProgram-1
		for _, op := range askOps {
			yes := withWord(rets(impl.MaxProgram), at, ask(op, 1, impl.MaxJump, 0))
			no := withWord(rets(impl.MaxProgram), at, ask(op, 1, 0, impl.MaxJump))
			checkIs(t, yes, fits)
			checkIs(t, no, fits)
		}
	}
	list := append(slices.Repeat([]impl.Ins{ask(impl.OpEq, 0, 15, 15)}, impl.MaxProgram-16), rets(16)...)
	isLetBy(t, list, plainCall())
	runIs(t, list, plainCall(), 100, 25)
}

// One that passes over the last word is refused also where nothing comes to it, or no call goes that way.
func TestCheckProgramOfWaysThatNobodyGoes(t *testing.T) {
	refusesToRun(t, []impl.Ins{ret(1), jump(1), ret(2)})
	refusesToRun(t, []impl.Ins{jump(1), ask(impl.OpEq, 0, 1, 0), ret(2)})
	refusesToRun(t, []impl.Ins{ask(impl.OpEq, 0, 0, 2), ret(1), ret(2)})
	refusesToRun(t, []impl.Ins{ask(impl.OpMore, impl.MaxHalf, 2, 0), ret(1), ret(2)})
	refusesToRun(t, []impl.Ins{jump(0), ret(1), load(0), jump(3), ret(2)})
}

func TestRunKnown(t *testing.T) {
	list := []impl.Ins{load(0), ask(impl.OpEq, 1, 1, 0), ret(2), ret(3)}
	runIs(t, list, ofNum(1), 3, 3)
	runIs(t, list, ofNum(2), 2, 3)
	list = []impl.Ins{load(1), ask(impl.OpEq, 62, 1, 0), ret(0), load(0), ask(impl.OpMore, 5, 2, 0), and(1), ask(impl.OpSet, 1, 1, 0), ret(131085), ret(327680)}
	// Words 0, 1, 3, 4, 5, 6 and 8; then 0, 1, 3, 4, 5, 6 and 7; then 0, 1, 3, 4 and 7.
	runIs(t, list, ofNum(3), 327680, 7)
	runIs(t, list, ofNum(4), 131085, 7)
	runIs(t, list, ofNum(6), 131085, 5)
	other := ofNum(3)
	other.Arch = 63
	runIs(t, list, other, 0, 3)
}

// The register is 0 at first, whatever the call has at its places.
func TestRunBeginsWithNothing(t *testing.T) {
	full := impl.Call{Arch: impl.MaxHalf, Num: impl.MaxHalf, Args: slices.Repeat([]impl.Wide{{Hi: impl.MaxHalf, Lo: impl.MaxHalf}}, 3)}
	for _, c := range []impl.Call{plainCall(), full, {Args: make([]impl.Wide, 3)}} {
		runIs(t, []impl.Ins{ask(impl.OpEq, 0, 1, 0), ret(1), ret(2)}, c, 2, 2)
		runIs(t, []impl.Ins{ask(impl.OpMore, 0, 1, 0), ret(1), ret(2)}, c, 1, 2)
		runIs(t, []impl.Ins{ask(impl.OpLeast, 0, 1, 0), ret(1), ret(2)}, c, 2, 2)
		runIs(t, []impl.Ins{ask(impl.OpLeast, 1, 1, 0), ret(1), ret(2)}, c, 1, 2)
		runIs(t, []impl.Ins{ask(impl.OpSet, impl.MaxHalf, 1, 0), ret(1), ret(2)}, c, 1, 2)
		runIs(t, []impl.Ins{and(impl.MaxHalf), ask(impl.OpEq, 0, 1, 0), ret(1), ret(2)}, c, 2, 3)
	}
}

func TestRunLoadsEveryField(t *testing.T) {
	for _, c := range rightCalls() {
		fields := fieldsOf(c)
		for k := range 8 {
			list := []impl.Ins{load(k), ask(impl.OpEq, fields[k], 1, 0), ret(1), ret(2)}
			runIs(t, list, c, 2, 3)
			list[1].K = fields[k] ^ 1
			runIs(t, list, c, 1, 3)
			// What was there is gone: the later one counts.
			later := []impl.Ins{load((k + 3) % 8), load(k), ask(impl.OpEq, fields[k], 1, 0), ret(1), ret(2)}
			runIs(t, later, c, 2, 4)
		}
	}
}

func TestRunOfAnd(t *testing.T) {
	for _, n := range append([]int{6, 3735928559}, halfEdges...) {
		for _, mask := range append([]int{3, 2863311530}, halfEdges...) {
			want := int(uint32(n) & uint32(mask))
			list := []impl.Ins{load(0), and(mask), ask(impl.OpEq, want, 1, 0), ret(1), ret(2)}
			runIs(t, list, ofNum(n), 2, 4)
			// It stays so for what comes behind.
			twice := []impl.Ins{load(0), and(mask), and(1), ask(impl.OpEq, want&1, 1, 0), ret(1), ret(2)}
			runIs(t, twice, ofNum(n), 2, 5)
		}
	}
	runIs(t, []impl.Ins{load(0), and(12), ask(impl.OpEq, 8, 1, 0), ret(1), ret(2)}, ofNum(10), 2, 4)
}

// Below K, at K and above it; with bits in common and none.
func TestRunOfQuestions(t *testing.T) {
	numbers := append([]int{3, 4, 5, 8, 2147483649, 3735928559}, halfEdges...)
	for _, op := range askOps {
		for _, n := range numbers {
			for _, k := range numbers {
				want := 1
				if answerOf(op, n, k) {
					want = 2
				}
				runIs(t, []impl.Ins{load(0), ask(op, k, 1, 0), ret(1), ret(2)}, ofNum(n), want, 3)
				runIs(t, []impl.Ins{load(0), ask(op, k, 0, 1), ret(2), ret(1)}, ofNum(n), want, 3)
			}
		}
	}
}

func TestRunOfQuestionsKnown(t *testing.T) {
	known := []struct{ op, n, k, want int }{
		{impl.OpEq, 4, 5, 1}, {impl.OpEq, 5, 5, 2}, {impl.OpEq, 6, 5, 1}, {impl.OpEq, 0, 0, 2}, {impl.OpEq, impl.MaxHalf, impl.MaxHalf, 2},
		{impl.OpMore, 4, 5, 1}, {impl.OpMore, 5, 5, 1}, {impl.OpMore, 6, 5, 2}, {impl.OpMore, 0, 0, 1}, {impl.OpMore, 1, 0, 2}, {impl.OpMore, impl.MaxHalf, impl.MaxHalf, 1}, {impl.OpMore, impl.MaxHalf, 0, 2}, {impl.OpMore, 0, impl.MaxHalf, 1},
		{impl.OpLeast, 4, 5, 1}, {impl.OpLeast, 5, 5, 2}, {impl.OpLeast, 6, 5, 2}, {impl.OpLeast, 0, 0, 2}, {impl.OpLeast, impl.MaxHalf, impl.MaxHalf, 2}, {impl.OpLeast, impl.MaxHalf - 1, impl.MaxHalf, 1},
		{impl.OpSet, 4, 3, 1}, {impl.OpSet, 5, 3, 2}, {impl.OpSet, 3, 5, 2}, {impl.OpSet, 0, 0, 1}, {impl.OpSet, impl.MaxHalf, 0, 1}, {impl.OpSet, 0, impl.MaxHalf, 1}, {impl.OpSet, impl.MaxHalf, 2147483648, 2}, {impl.OpSet, 2147483647, 2147483648, 1},
	}
	for _, q := range known {
		runIs(t, []impl.Ins{load(0), ask(q.op, q.k, 1, 0), ret(1), ret(2)}, ofNum(q.n), q.want, 3)
	}
}

// A question leaves the register as it is.
func TestRunOfQuestionsInARow(t *testing.T) {
	for _, op := range askOps {
		list := []impl.Ins{load(0), ask(op, 4, 0, 0), ask(op, 9, 0, 0), jump(0), ask(impl.OpEq, 7, 1, 0), ret(1), ret(2)}
		runIs(t, list, ofNum(7), 2, 6)
		runIs(t, list, ofNum(8), 1, 6)
	}
}

// Each way passes over as many words as it says; those are not counted.
func TestRunPassesOver(t *testing.T) {
	for _, op := range askOps {
		for yes := range 16 {
			for no := range 16 {
				list := append([]impl.Ins{load(0), ask(op, 1, yes, no)}, rets(18)...)
				runIs(t, list, ofNum(0), 100+no, 3)
				way := yes
				if op == impl.OpMore {
					way = no
				}
				runIs(t, list, ofNum(1), 100+way, 3)
			}
		}
	}
	for k := range impl.MaxProgram - 1 {
		runIs(t, append([]impl.Ins{jump(k)}, rets(impl.MaxProgram-1)...), plainCall(), 100+k, 2)
	}
}

// What is passed over is not done: the register keeps what it has.
func TestRunDoesNotDoWhatItPasses(t *testing.T) {
	tail := []impl.Ins{ask(impl.OpEq, 7, 1, 0), ret(1), ret(2)}
	for _, over := range []impl.Ins{load(1), and(0), ret(5), jump(2), ask(impl.OpLeast, 0, 2, 2)} {
		runIs(t, append([]impl.Ins{load(0), jump(1), over}, tail...), ofNum(7), 2, 4)
		runIs(t, append([]impl.Ins{load(0), ask(impl.OpEq, 7, 1, 0), over}, tail...), ofNum(7), 2, 4)
		runIs(t, append([]impl.Ins{load(0), ask(impl.OpEq, 8, 0, 1), over}, tail...), ofNum(7), 2, 4)
	}
}

func TestRunOfResults(t *testing.T) {
	for _, k := range append([]int{65535, 131085, 327680, 393215, 393216}, halfEdges...) {
		runIs(t, []impl.Ins{ret(k)}, plainCall(), k, 1)
		runIs(t, []impl.Ins{load(0), and(3), ret(k), ret(7)}, plainCall(), k, 3)
	}
	// A result of 0 is one: words were done.
	runIs(t, []impl.Ins{ret(0)}, plainCall(), 0, 1)
	runIs(t, []impl.Ins{load(0), ret(0), ret(1)}, plainCall(), 0, 2)
}

func TestRunOfWrongCalls(t *testing.T) {
	for _, c := range wrongCalls() {
		runIs(t, []impl.Ins{ret(5)}, c, 0, 0)
		runIs(t, []impl.Ins{load(0), ask(impl.OpEq, 1, 1, 0), ret(2), ret(3)}, c, 0, 0)
		runIs(t, []impl.Ins{load(0)}, c, 0, 0)
		runIs(t, nil, c, 0, 0)
	}
}

func TestReachedKnown(t *testing.T) {
	reachedIs(t, []impl.Ins{ret(1)}, true)
	reachedIs(t, []impl.Ins{load(0), ask(impl.OpEq, 1, 1, 0), ret(2), ret(3)}, true, true, true, true)
	reachedIs(t, []impl.Ins{load(0), and(1), ret(2)}, true, true, true)
	reachedIs(t, []impl.Ins{jump(0), ret(2)}, true, true)
	reachedIs(t, []impl.Ins{jump(2), load(0), load(1), ret(2)}, true, false, false, true)
	// Nothing comes to the last word, or to what stands behind an OpRet.
	reachedIs(t, []impl.Ins{ret(1), ret(2)}, true, false)
	reachedIs(t, []impl.Ins{load(0), ret(1), load(0), ret(2)}, true, true, false, false)
	reachedIs(t, []impl.Ins{ask(impl.OpSet, 1, 0, 1), ret(1), ret(2), ret(3)}, true, true, true, false)
}

// What a word leads to that is not reached is not reached by that.
func TestReachedByWhatIsNotReached(t *testing.T) {
	reachedIs(t, []impl.Ins{jump(2), jump(1), load(0), ret(1), ret(2)}, true, false, false, true, false)
	reachedIs(t, []impl.Ins{ret(1), ask(impl.OpEq, 0, 1, 0), ret(2), ret(3)}, true, false, false, false)
	reachedIs(t, []impl.Ins{ret(1), load(0), and(0), ret(3)}, true, false, false, false)
	reachedIs(t, []impl.Ins{jump(1), jump(2), jump(0), ret(1), ret(2)}, true, false, true, true, false)
	reachedIs(t, []impl.Ins{jump(1), jump(1), ret(1), ret(2)}, true, false, true, false)
}

// Both ways of a question are gone, also where its answer could be known.
func TestReachedBothWays(t *testing.T) {
	known := []impl.Ins{
		ask(impl.OpEq, 0, 1, 2), ask(impl.OpEq, 5, 1, 2), ask(impl.OpMore, impl.MaxHalf, 1, 2), ask(impl.OpMore, 0, 1, 2),
		ask(impl.OpLeast, 0, 1, 2), ask(impl.OpLeast, 9, 1, 2), ask(impl.OpSet, 0, 1, 2), ask(impl.OpSet, impl.MaxHalf, 1, 2),
	}
	for _, x := range known {
		reachedIs(t, []impl.Ins{x, ret(1), ret(2), ret(3), ret(4)}, true, false, true, true, false)
		reachedIs(t, []impl.Ins{and(0), x, ret(1), ret(2), ret(3)}, true, true, false, true, true)
		x.Yes, x.No = x.No, x.Yes
		reachedIs(t, []impl.Ins{x, ret(1), ret(2), ret(3), ret(4)}, true, false, true, true, false)
		x.Yes, x.No = 3, 3
		reachedIs(t, []impl.Ins{x, ret(1), ret(2), ret(3), ret(4)}, true, false, false, false, true)
		x.Yes, x.No = 0, 0
		reachedIs(t, []impl.Ins{x, ret(1), ret(2)}, true, true, false)
	}
}

func TestReachedOfEveryWay(t *testing.T) {
	for _, op := range askOps {
		for yes := range 16 {
			for no := range 16 {
				want := make([]bool, 19)
				want[0], want[1+yes], want[1+no] = true, true, true
				reachedIs(t, append([]impl.Ins{ask(op, 7, yes, no)}, rets(18)...), want...)
			}
		}
	}
	for k := range impl.MaxProgram - 1 {
		want := make([]bool, impl.MaxProgram)
		want[0], want[1+k] = true, true
		reachedIs(t, append([]impl.Ins{jump(k)}, rets(impl.MaxProgram-1)...), want...)
	}
}

// Where a call comes to, Reached tells: the words that Run does are all among them.
func TestWhatIsRunIsReached(t *testing.T) {
	r := rand.New(rand.NewPCG(7, 3))
	for range 500 {
		list := drawnProgram(r, 2+r.IntN(60))
		for i, there := range impl.Reached(list) {
			if there || i == len(list)-1 {
				continue
			}
			other := withWord(list, i, ret(5000))
			for _, c := range []impl.Call{plainCall(), ofNum(0), ofNum(impl.MaxHalf)} {
				result, words := impl.Run(list, c)
				runIs(t, other, c, result, words)
			}
		}
	}
}

func TestLookingOverWritesIntoNothing(t *testing.T) {
	for _, size := range []int{1, 3, 40, impl.MaxProgram, impl.MaxProgram + 1} {
		room := append(rets(size), slices.Repeat([]impl.Ins{ask(impl.OpEq, 9, 15, 15)}, 5)...)
		if size > 2 {
			room[0], room[1] = load(0), ask(impl.OpEq, 1, 0, 0)
		}
		args := []impl.Wide{{Lo: 1}, {Lo: 2}, {Hi: 3}, {Lo: 77}, {Hi: 78}}
		before, argsBefore := slices.Clone(room), slices.Clone(args)
		impl.CheckProgram(room[:size])
		impl.Run(room[:size], impl.Call{Arch: 62, Num: 1, Args: args[:3]})
		impl.Run(room[:size], impl.Call{Arch: 62, Num: 1, Args: args[:2]})
		marks := impl.Reached(room[:size])
		for i := range marks {
			marks[i] = false
		}
		if !slices.Equal(room, before) || !slices.Equal(args, argsBefore) {
			t.Errorf("with %d words something was written into an argument or behind it", size)
		}
	}
}

func TestReachedIsNewEachTime(t *testing.T) {
	list := []impl.Ins{load(0), ask(impl.OpEq, 1, 1, 0), ret(2), ret(3)}
	first, second := impl.Reached(list), impl.Reached(list)
	clear(first)
	clear(first[:cap(first)])
	if !slices.Equal(second, []bool{true, true, true, true}) {
		t.Errorf("an answer changes with another one: %v", second)
	}
	reachedIs(t, list, true, true, true, true)
}

// Whatever comes in, all three answer, the same each time.
func TestLookingOverAnswersAtEveryArgument(t *testing.T) {
	calls := []impl.Call{plainCall(), {}, {Arch: -1, Num: 1, Args: make([]impl.Wide, 3)}, {Args: make([]impl.Wide, 600)}}
	for _, x := range slices.Concat(rightWords(), wrongWords()) {
		for _, list := range [][]impl.Ins{{x}, {x, ret(1)}, {x, x, ret(1)}, {ret(1), x}, append([]impl.Ins{x}, rets(16)...)} {
			right := programIsRight(list)
			checkIs(t, list, right)
			if right {
				isLetBy(t, list, plainCall())
			} else {
				refusesToRun(t, list)
			}
			for _, c := range calls[1:] {
				runIs(t, list, c, 0, 0)
			}
		}
	}
}
