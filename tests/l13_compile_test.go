package tests

import (
	"maps"
	"math"
	"math/rand/v2"
	"reflect"
	"slices"
	"strconv"
	"strings"
	"testing"

	"loop.example/g00397/impl"
)

// Promise 13: A program does what its policy tells.

// numsByRule keeps the numbers in a set, where each is once.
func numsByRule(p impl.Policy) []int {
	set := map[int]int{}
	for _, r := range p.Rules {
		for _, num := range r.Nums {
			set[num]++
		}
	}
	return slices.Sorted(maps.Keys(set))
}

// ownResult is what a policy or a rule gives by itself: 0 of what is none.
func ownResult(action, data int) int {
	if action < 0 || action > 5 || data < 0 || data > 65535 {
		return 0
	}
	return 65536*action + data
}

// chainByRule is told from the last rule to the first one.
func chainByRule(p impl.Policy, num int, any bool, base string) []impl.Line {
	lines := []impl.Line{line(ret(ownResult(p.Action, p.Data)))}
	for i := min(len(p.Rules), 26) - 1; i >= 0; i-- {
		r := p.Rules[i]
		if len(r.Nums) > 0 && (any || slices.Index(r.Nums, num) < 0) {
			continue
		}
		own := base + string(rune('a'+i))
		lines = slices.Concat(ruleLinesByRule(r, own, own+"z"), []impl.Line{place(own + "z")}, lines)
	}
	return lines
}

// treeByRule has what is still to be told on a heap of parts, the next one on top.
func treeByRule(p impl.Policy, nums []int, base string) []impl.Line {
	type part struct {
		nums []int
		base string
		told []impl.Line
	}
	var lines []impl.Line
	heap := []part{{nums: nums, base: base}}
	for len(heap) > 0 {
		top := heap[len(heap)-1]
		heap = heap[:len(heap)-1]
		below := func(name string) string { return top.base + name }
		switch half := len(top.nums) / 2; {
		case top.told != nil:
			lines = append(lines, top.told...)
		case len(top.nums) == 0:
			lines = append(lines, chainByRule(p, 0, true, top.base)...)
		case len(top.nums) == 1:
			lines = append(lines, asking(3, top.nums[0], below("y"), below("x")), place(below("y")))
			lines = append(lines, chainByRule(p, top.nums[0], false, below("y"))...)
			heap = append(heap, part{base: below("x")}, part{told: []impl.Line{place(below("x"))}})
		default:
			lines = append(lines, asking(5, top.nums[half], below("h"), below("l")), place(below("l")))
			heap = append(heap, part{nums: top.nums[half:], base: below("h")}, part{told: []impl.Line{place(below("h"))}}, part{nums: top.nums[:half], base: below("l")})
		}
	}
	return lines
}

func policyLinesByRule(p impl.Policy) []impl.Line {
	ahead := linesOf("load 1; eq " + strconv.Itoa(p.Arch) + " p q; q:; ret 0; p:; load 0")
	return slices.Concat(ahead, treeByRule(p, numsByRule(p), "t"))
}

// decidedByRule is of a right policy and a right call.
func decidedByRule(p impl.Policy, x impl.Call) int {
	if x.Arch != p.Arch {
		return 0
	}
	if first := firstThatHolds(p.Rules, x); first >= 0 {
		p.Action, p.Data = p.Rules[first].Action, p.Rules[first].Data
	}
	return 65536*p.Action + p.Data
}

// linesOf are told in words: a place has a colon behind it, a question its K and both its labels.
func linesOf(said string) []impl.Line {
	ops := map[string]int{"load": 1, "and": 2, "eq": 3, "more": 4, "least": 5, "ret": 8}
	var lines []impl.Line
	for _, part := range strings.Split(said, "; ") {
		words := append(strings.Fields(part), "", "")
		if label, ok := strings.CutSuffix(words[0], ":"); ok {
			lines = append(lines, place(label))
			continue
		}
		k, _ := strconv.Atoi(words[1])
		lines = append(lines, asking(ops[words[0]], k, words[2], words[3]))
	}
	return lines
}

func numsAre(t *testing.T, p impl.Policy, want ...int) {
	t.Helper()
	if got := impl.NumsOf(p); !slices.Equal(got, want) {
		t.Errorf("NumsOf of %d rules = %.100v; want %.100v", len(p.Rules), got, want)
	}
}

// firstUnlike is where two lists of lines part.
func firstUnlike(a, b []impl.Line) int {
	for i := range min(len(a), len(b)) {
		if a[i] != b[i] {
			return i
		}
	}
	return min(len(a), len(b))
}

// linesAre wants some lines, and tells of the first ones that are others.
func linesAre(t *testing.T, said string, got, want []impl.Line) {
	t.Helper()
	if !slices.Equal(got, want) {
		at := firstUnlike(got, want)
		t.Errorf("%s: %d lines, want %d; from %d on %s; want %s", said, len(got), len(want), at, linesSaid(got[at:]), linesSaid(want[at:]))
	}
}

func chainIs(t *testing.T, p impl.Policy, num int, any bool, base string, want []impl.Line) {
	t.Helper()
	linesAre(t, "ChainLines", impl.ChainLines(p, num, any, base), want)
}

func treeIs(t *testing.T, p impl.Policy, nums []int, base string, want []impl.Line) {
	t.Helper()
	linesAre(t, "TreeLines", impl.TreeLines(p, nums, base), want)
}

func policyLinesAre(t *testing.T, p impl.Policy, want []impl.Line) {
	t.Helper()
	linesAre(t, "PolicyLines", impl.PolicyLines(p), want)
}

// refusesToCompile wants a code, and nothing beside it.
func refusesToCompile(t *testing.T, p impl.Policy, code int) {
	t.Helper()
	if words, got := impl.Compile(p); got != code || len(words) != 0 {
		t.Errorf("Compile of %d rules = %d words and %d; want nothing and %d: %.200s", len(p.Rules), len(words), got, code, plainly(p))
	}
}

// compiles wants a program that is let by.
func compiles(t *testing.T, p impl.Policy) []impl.Ins {
	t.Helper()
	words, code := impl.Compile(p)
	if code != 0 || !impl.CheckProgram(words) {
		t.Fatalf("Compile of %s = %d words and %d, let by: %v; want 0", plainly(p), len(words), code, impl.CheckProgram(words))
	}
	return words
}

// doesWhatItTells runs the program of a right policy, and wants what Decide tells, by as many words as there are or fewer.
func doesWhatItTells(t *testing.T, p impl.Policy, words []impl.Ins, calls ...impl.Call) {
	t.Helper()
	for _, x := range calls {
		want := decidedByRule(p, x)
		decideIs(t, p, x, want)
		if got, done := impl.Run(words, x); got != want || done < 1 || done > len(words) {
			t.Errorf("the program of %s ends of %+v with %d after %d of %d words; want %d", plainly(p), x, got, done, len(words), want)
		}
	}
}

// numsNear are halves: those that a policy names, those next to them or between two of them, below and above all.
func numsNear(p impl.Policy) []int {
	nums := []int{0, 1, 4294967294, 4294967295}
	named := numsByRule(p)
	for i, num := range named {
		nums = append(nums, num-1, num, num+1, (num+named[(i+1)%len(named)])/2)
	}
	nums = slices.DeleteFunc(nums, func(n int) bool { return n < 0 || n > 4294967295 })
	slices.Sort(nums)
	return slices.Compact(nums)
}

// ofNums are calls with each of some numbers, else as x is.
func ofNums(x impl.Call, nums []int) []impl.Call {
	var calls []impl.Call
	for _, num := range nums {
		x.Num = num
		calls = append(calls, x)
	}
	return calls
}

// otherArchs are halves beside arch, also such as are like it in their low bits.
func otherArchs(arch int) []int {
	archs := []int{0, 1, 2, 61, 63, 4294967295, wrapped(arch, 1), wrapped(arch, -1), arch ^ 65536, arch ^ 2147483648}
	return slices.DeleteFunc(archs, func(n int) bool { return n == arch })
}

// drawnNums are next to one another, far from one another, or at the ends.
func drawnNums(r *rand.Rand) []int {
	var nums []int
	from := drawnHalf(r)
	for i := range 1 + r.IntN(30) {
		switch r.IntN(8) {
		case 0:
			nums = append(nums, drawnHalf(r))
		case 1:
			nums = append(nums, []int{0, 1, 4294967294, 4294967295}[r.IntN(4)])
		default:
			nums = append(nums, wrapped(from, i))
		}
	}
	return nums
}

// ruleNear has numbers of the list, and conditions that often hold of the call.
func ruleNear(r *rand.Rand, x impl.Call, nums []int, conds int) impl.Rule {
	rule := impl.Rule{Conds: holdsOf(r, x, conds), Action: r.IntN(6), Data: dataEdges[r.IntN(len(dataEdges))]}
	for range []int{0, 1, 1, 2, 3, 4}[r.IntN(6)] {
		rule.Nums = append(rule.Nums, nums[r.IntN(len(nums))])
	}
	slices.Sort(rule.Nums)
	rule.Nums = slices.Compact(rule.Nums)
	return rule
}

// policyNear is right. Of ten rules as many as bare says are without conditions; many rules have often few numbers to draw from, so that the program has room.
func policyNear(r *rand.Rand, x impl.Call, count, bare int) impl.Policy {
	p := impl.Policy{Arch: x.Arch, Action: r.IntN(6), Data: dataEdges[r.IntN(len(dataEdges))]}
	nums := drawnNums(r)
	if count > 3 && r.IntN(4) > 0 {
		nums = nums[:min(len(nums), 1+r.IntN(6))]
	}
	for range count {
		conds := r.IntN(4)
		if r.IntN(10) < bare {
			conds = 0
		}
		p.Rules = append(p.Rules, ruleNear(r, x, nums, conds))
	}
	return p
}

// callsNear are calls that a policy's numbers and conditions look at, some of them of another Arch.
func callsNear(r *rand.Rand, p impl.Policy, x impl.Call) []impl.Call {
	calls := ofNums(x, numsNear(p))
	for _, rule := range p.Rules {
		for _, c := range rule.Conds {
			near := nearCall(r, c)
			calls = append(calls, impl.Call{Arch: p.Arch, Num: x.Num, Args: near.Args})
		}
	}
	for i := range calls {
		if r.IntN(3) == 0 {
			calls[i].Args = slices.Clone(calls[i].Args)
			calls[i].Args[r.IntN(3)] = nearWide(r, calls[i].Args[r.IntN(3)])
		}
		if len(p.Rules) > 0 && r.IntN(3) == 0 {
			if nums := p.Rules[r.IntN(len(p.Rules))].Nums; len(nums) > 0 {
				calls[i].Num = nums[r.IntN(len(nums))]
			}
		}
	}
	archs := otherArchs(p.Arch)
	for range 5 {
		other := calls[r.IntN(len(calls))]
		other.Arch = archs[r.IntN(len(archs))]
		calls = append(calls, other)
	}
	return calls
}

func TestCompileConstants(t *testing.T) {
	if impl.CeForm != 1 || impl.CeLong != 2 {
		t.Errorf("CeForm and CeLong are %d and %d", impl.CeForm, impl.CeLong)
	}
}

func TestAProgramDoesWhatItsPolicyTells(t *testing.T) {
	r := rand.New(rand.NewPCG(13, 1))
	decided, unnamed, made := map[int]int{}, 0, map[int]int{}
	for i := range 6000 {
		x := nearCall(r, maskedCond(r, 1, 0))
		p := policyNear(r, x, i%11, i%11)
		policyOkIs(t, p, true)
		words, code := impl.Compile(p)
		if code != 0 {
			if len(p.Rules) <= 2 || code != impl.CeLong || len(words) != 0 {
				t.Fatalf("Compile of %s = %d words and %d", plainly(p), len(words), code)
			}
			continue
		}
		made[len(p.Rules)]++
		checkIs(t, words, true)
		calls := callsNear(r, p, x)
		doesWhatItTells(t, p, words, calls...)
		for _, x := range calls {
			switch {
			case x.Arch != p.Arch:
				decided[-2]++
			case !slices.Contains(numsByRule(p), x.Num):
				unnamed++
			}
			if x.Arch == p.Arch {
				decided[firstThatHolds(p.Rules, x)]++
			}
		}
	}
	for count := range 11 {
		if made[count] < 100 {
			t.Errorf("of %d rules %d programs are made, too few to tell much", count, made[count])
		}
	}
	for at := -2; at < 10; at++ {
		if decided[at] < 100 {
			t.Errorf("the rule at %d (the policy at -1, another Arch at -2) decides %d times, too few to tell much", at, decided[at])
		}
	}
	if unnamed < 5000 {
		t.Errorf("%d calls are of numbers that no rule names, too few to tell much", unnamed)
	}
}

// Numbers in rows and far from one another, each with a rule's result of its own: every number near to one of them is asked for.
func TestProgramsOfNumbersThatNoRuleNames(t *testing.T) {
	rows := [][]int{
		{0}, {4294967295}, {1}, {7}, {0, 1}, {0, 2}, {0, 4294967295}, {4294967294, 4294967295}, {5, 6}, {5, 7}, {5, 100}, {2147483647, 2147483648},
		{0, 1, 2}, {1, 3, 5}, {0, 2147483648, 4294967295}, {10, 11, 13}, {10, 12, 13}, {1, 2, 3, 4}, {0, 2, 4, 6}, {1, 10, 100, 1000},
	}
	for _, nums := range rows {
		for _, any := range [][]impl.Rule{nil, {anyRule(3, 77)}} {
			p := policyOf()
			for i, num := range nums {
				p.Rules = append(p.Rules, numRule(i%5, 100+i, num))
			}
			p.Rules = append(p.Rules, any...)
			words := compiles(t, p)
			doesWhatItTells(t, p, words, ofNums(plainCall(), numsNear(p))...)
			for _, x := range ofNums(plainCall(), numsNear(p)) {
				want := 65536*5 + 9
				if at := slices.Index(nums, x.Num); at >= 0 {
					want = 65536*(at%5) + 100 + at
				} else if any != nil {
					want = 65536*3 + 77
				}
				endIs(t, words, x, want)
			}
		}
	}
}

// As many numbers as a right policy can name, 40 of 10 rules, and every count up to there.
func TestProgramsOfManyNumbers(t *testing.T) {
	for count := range 41 {
		for _, step := range []int{1, 2, 3, 107374182} {
			p := policyOf()
			for i := range count {
				if i%4 == 0 {
					p.Rules = append(p.Rules, numRule(i/4%6, i))
				}
				last := &p.Rules[len(p.Rules)-1]
				last.Nums = append(last.Nums, i*step)
			}
			words := compiles(t, p)
			doesWhatItTells(t, p, words, ofNums(plainCall(), numsNear(p))...)
			turned := p
			turned.Rules = slices.Clone(p.Rules)
			slices.Reverse(turned.Rules)
			doesWhatItTells(t, turned, compiles(t, turned), ofNums(plainCall(), numsNear(p))...)
		}
	}
}

// The Num is loaded for the questions of it: no Arch, nor an Arg, is taken for it.
func TestProgramsAskForTheNumAlone(t *testing.T) {
	p := policyOf(numRule(1, 1, 10), numRule(2, 2, 11, 20), numRule(3, 3, 62), condRule(4, 4, plainCond()))
	words := compiles(t, p)
	for _, num := range []int{0, 10, 11, 20, 21, 30, 31, 61, 62, 63} {
		for _, w := range widesOf([]int{0, 10, 11, 20, 62}) {
			for at := range 3 {
				x := withArg(at, w)
				x.Num = num
				doesWhatItTells(t, p, words, x)
			}
		}
	}
}

func TestProgramsOfAnotherArch(t *testing.T) {
	for _, arch := range slices.Concat(halfEdges, []int{62, 3221225534}) {
		p := policyOf(numRule(4, 1, 1, 62), condRule(3, 2, plainCond()), anyRule(5, 3))
		p.Arch = arch
		words := compiles(t, p)
		for _, x := range rightCalls() {
			x.Arch = arch
			doesWhatItTells(t, p, words, x)
		}
		for _, other := range slices.Concat(otherArchs(arch), halfEdges) {
			for _, num := range []int{0, 1, 2, 62, arch} {
				x := plainCall()
				x.Arch, x.Num = other, num
				doesWhatItTells(t, p, words, x)
				if other != arch {
					endIs(t, words, x, 0)
				}
			}
		}
	}
	// Even where the policy itself allows, and has no rules.
	x := plainCall()
	x.Arch = 63
	endIs(t, compiles(t, policyOf()), x, 0)
	endIs(t, compiles(t, policyOf()), plainCall(), 65536*5+9)
}

// Each result, of the policy and of a rule, comes to the program's end.
func TestProgramsOfAllResults(t *testing.T) {
	for _, action := range actionNumbers {
		for _, data := range dataEdges {
			for _, other := range actionNumbers {
				p := impl.Policy{Arch: 62, Action: action, Data: data, Rules: []impl.Rule{numRule(other, 65535-data, 1)}}
				words := compiles(t, p)
				endIs(t, words, ofNum(1), 65536*other+65535-data)
				endIs(t, words, ofNum(2), 65536*action+data)
				doesWhatItTells(t, p, words, ofNum(1), ofNum(2))
			}
		}
	}
}

// The first rule that holds gives the result, though all behind it hold, too.
func TestProgramsKeepTheOrderOfRules(t *testing.T) {
	for first := range 11 {
		p := policyOf()
		for i := range 10 {
			rule := numRule(i%6, i, 1, 2)
			if i%3 == 2 {
				rule.Nums = nil
			}
			if i < first {
				rule.Conds = []impl.Cond{failingCond()}
			}
			p.Rules = append(p.Rules, rule)
		}
		words := compiles(t, p)
		want := 65536*5 + 9
		if first < 10 {
			want = 65536*(first%6) + first
		}
		endIs(t, words, ofNum(1), want)
		doesWhatItTells(t, p, words, ofNums(plainCall(), []int{0, 1, 2, 3, 4294967295})...)
	}
}

// numPairs are the Nums of two rules: with all, some or none that are the same.
func numPairs() [][2][]int {
	lists := [][]int{nil, {5}, {1, 2}, {4, 5, 6}, {1, 2, 3, 4}, {3, 4, 5, 6}, {5, 6, 7, 8}, {1, 3, 5, 7}, {0, 1, 4294967294, 4294967295}}
	var pairs [][2][]int
	for _, one := range lists {
		for _, other := range lists {
			pairs = append(pairs, [2][]int{one, other})
		}
	}
	return pairs
}

// With the most conditions that are right, of each kind, and the most numbers.
func TestTwoRulesAlwaysBecomeAProgram(t *testing.T) {
	r := rand.New(rand.NewPCG(13, 2))
	for _, pair := range numPairs() {
		for turn := range 12 {
			x := nearCall(r, maskedCond(r, 1, 0))
			p := impl.Policy{Arch: x.Arch, Action: r.IntN(6), Data: turn}
			for i, nums := range pair {
				rule := impl.Rule{Nums: nums, Action: r.IntN(6), Data: 100 + i}
				for at := range 3 {
					c := maskedCond(r, 1+(turn+i*turn/6+at*i)%6, at)
					rule.Conds = append(rule.Conds, c)
				}
				if turn%4 == 3 {
					rule.Conds = holdsOf(r, x, 3)
				}
				p.Rules = append(p.Rules, rule)
			}
			doesWhatItTells(t, p, compiles(t, p), callsNear(r, p, x)...)
			one := p
			one.Rules = p.Rules[:1]
			doesWhatItTells(t, one, compiles(t, one), callsNear(r, one, x)...)
			one.Rules = p.Rules[1:]
			doesWhatItTells(t, one, compiles(t, one), callsNear(r, one, x)...)
		}
	}
	for range 4000 {
		x := nearCall(r, maskedCond(r, 1, 0))
		nums := drawnNums(r)
		p := impl.Policy{Arch: x.Arch, Action: 5, Rules: []impl.Rule{ruleNear(r, x, nums, r.IntN(4)), ruleNear(r, x, nums, r.IntN(4))}}
		doesWhatItTells(t, p, compiles(t, p), x)
	}
}

// A program of policies that come from texts.
func TestProgramsOfPoliciesFromTexts(t *testing.T) {
	p, ok := impl.ReadPolicy("arch 62; default allow; on write, exec if arg 0 > 5 do err 13; on any if arg 2 & 255 == 7 do log; on kill, 4294967295 do kill; on any if arg 1 < 1:0 and arg 1 != 9 do trace 3;")
	if !ok {
		t.Fatal("the policy isn't read")
	}
	words := compiles(t, p)
	known := []struct {
		num    int
		a, b   impl.Wide
		c      int
		result int
	}{
		{1, impl.Wide{Lo: 6}, impl.Wide{Lo: 9}, 0, 131085}, {6, impl.Wide{Hi: 1}, impl.Wide{Lo: 9}, 7, 131085}, {1, impl.Wide{Lo: 5}, impl.Wide{Lo: 9}, 7, 262144},
		{1, impl.Wide{Lo: 5}, impl.Wide{Lo: 8}, 8, 196611}, {1, impl.Wide{Lo: 5}, impl.Wide{Lo: 9}, 8, 327680}, {8, impl.Wide{Lo: 9}, impl.Wide{}, 0, 0},
		{8, impl.Wide{}, impl.Wide{}, 256 + 7, 262144}, {4294967295, impl.Wide{}, impl.Wide{}, 0, 0}, {7, impl.Wide{Lo: 9}, impl.Wide{Hi: 1}, 0, 327680},
		{0, impl.Wide{Lo: 9}, impl.Wide{}, 0, 196611}, {9, impl.Wide{Lo: 9}, impl.Wide{Lo: 9}, 7, 262144}, {2, impl.Wide{Lo: 6}, impl.Wide{Hi: 1}, 6, 327680},
	}
	for _, k := range known {
		x := impl.Call{Arch: 62, Num: k.num, Args: []impl.Wide{k.a, k.b, {Lo: k.c}}}
		endIs(t, words, x, k.result)
		decideIs(t, p, x, k.result)
	}
}

func TestNumsOfKnown(t *testing.T) {
	numsAre(t, impl.Policy{})
	numsAre(t, policyOf(anyRule(4, 0), condRule(4, 0, plainCond())))
	numsAre(t, policyOf(numRule(4, 0, 7)), 7)
	numsAre(t, policyOf(numRule(4, 0, 0)), 0)
	numsAre(t, policyOf(numRule(4, 0, 5, 9), anyRule(4, 0), numRule(3, 0, 1, 5, 7), numRule(3, 0, 9)), 1, 5, 7, 9)
	numsAre(t, policyOf(numRule(4, 0, 4294967295), numRule(4, 0, 0, 4294967295)), 0, 4294967295)
	numsAre(t, policyOf(slices.Repeat([]impl.Rule{numRule(4, 0, 1, 2, 3, 4)}, 10)...), 1, 2, 3, 4)
	// Of policies that are not right.
	numsAre(t, policyOf(numRule(4, 0, 3, 1, 2, 1, 3)), 1, 2, 3)
	numsAre(t, policyOf(numRule(4, 0, -1, math.MaxInt), numRule(9, -9, math.MinInt, 0, -1)), math.MinInt, -1, 0, math.MaxInt)
	numsAre(t, impl.Policy{Arch: -1, Action: 9, Rules: []impl.Rule{numRule(-1, -1, 2), numRule(4, 0, 1)}}, 1, 2)
	numsAre(t, policyOf(numRule(4, 0, noHalves...)), slices.Sorted(slices.Values(noHalves))...)
}

func TestNumsOfAscendEachOnce(t *testing.T) {
	r := rand.New(rand.NewPCG(13, 3))
	pool := slices.Concat(noHalves, halfEdges, []int{3, 4, 5, 6, 7, 8})
	for i := range 3000 {
		p := policyOf()
		for range i % 30 {
			rule := anyRule(4, 0)
			for range r.IntN(1 + i%12) {
				rule.Nums = append(rule.Nums, pool[r.IntN(len(pool))])
			}
			p.Rules = append(p.Rules, rule)
		}
		numsAre(t, p, numsByRule(p)...)
	}
	many := make([]int, 100000)
	for i := range many {
		many[i] = (i * 7919) % 50000
	}
	got := impl.NumsOf(policyOf(numRule(4, 0, many...), numRule(4, 0, many...)))
	if len(got) != 50000 || got[0] != 0 || got[49999] != 49999 || !slices.IsSorted(got) {
		t.Errorf("NumsOf of many are %d", len(got))
	}
}

// fourRules are of any call, of 5 with a condition, of 5 and 7, and of any call with two conditions.
func fourRules() impl.Policy {
	least := impl.Cond{Arg: 1, Mask: impl.Wide{Hi: 1, Lo: 2}, Cm: impl.CmLeast, Val: impl.Wide{Hi: 3, Lo: 4}}
	other := impl.Cond{Arg: 2, Mask: impl.Wide{Hi: 5, Lo: 6}, Cm: impl.CmNot, Val: impl.Wide{Hi: 7, Lo: 8}}
	return policyOf(anyRule(1, 2), impl.Rule{Nums: []int{5}, Conds: []impl.Cond{least}, Action: 2, Data: 3}, numRule(3, 4, 5, 7), condRule(4, 5, other, other))
}

func TestChainLinesKnown(t *testing.T) {
	const (
		first  = "ret 65538; %az:; "
		second = "load 5; and 1; more 3 %bn0 %b0a; %b0a:; eq 3 %b0b %bz; %b0b:; load 4; and 2; least 4 %bn0 %bz; %bn0:; ret 131075; %bz:; "
		third  = "ret 196612; %cz:; "
		fourth = "load 7; and 5; eq 7 %d0a %dn0; %d0a:; load 6; and 6; eq 8 %dz %dn0; %dn0:; load 7; and 5; eq 7 %d1a %dn1; %d1a:; load 6; and 6; eq 8 %dz %dn1; %dn1:; ret 262149; %dz:; "
		last   = "ret 327689"
	)
	p := fourRules()
	for _, base := range []string{"t", "", "tly", "base", "%"} {
		is := func(num int, any bool, said ...string) {
			t.Helper()
			chainIs(t, p, num, any, base, linesOf(strings.ReplaceAll(strings.Join(said, ""), "%", base)))
		}
		is(5, false, first, second, third, fourth, last)
		is(7, false, first, third, fourth, last)
		for _, num := range []int{0, 1, 4, 6, 8, 62, -1, math.MinInt, math.MaxInt, 4294967295} {
			is(num, false, first, fourth, last)
		}
		// With any the number counts for nothing.
		for _, num := range []int{5, 7, 0, 6, -1} {
			is(num, true, first, fourth, last)
		}
	}
	for _, any := range []bool{false, true} {
		chainIs(t, policyOf(), 5, any, "t", linesOf("ret 327689"))
		chainIs(t, impl.Policy{}, 5, any, "t", linesOf("ret 0"))
		chainIs(t, policyOf(anyRule(4, 1)), 0, any, "x", linesOf("ret 262145; xaz:; ret 327689"))
		chainIs(t, policyOf(anyRule(4, 1), anyRule(4, 2)), 0, any, "x", linesOf("ret 262145; xaz:; ret 262146; xbz:; ret 327689"))
	}
	chainIs(t, policyOf(numRule(4, 1, 0)), 0, false, "x", linesOf("ret 262145; xaz:; ret 327689"))
	chainIs(t, policyOf(numRule(4, 1, 0)), 0, true, "x", linesOf("ret 327689"))
	chainIs(t, policyOf(numRule(4, 1, 0)), 1, false, "x", linesOf("ret 327689"))
	// A list without numbers is as one that is not there.
	chainIs(t, policyOf(numRule(4, 1, []int{}...)), 0, true, "x", linesOf("ret 262145; xaz:; ret 327689"))
	chainIs(t, policyOf(impl.Rule{Nums: []int{}, Action: 4}), 9, false, "x", linesOf("ret 262144; xaz:; ret 327689"))
}

// Each of the numbers of a rule is its own, wherever it stands in the list.
func TestChainLinesOfARuleOfSeveralNumbers(t *testing.T) {
	p := policyOf(numRule(4, 1, 2, 4, 6, 8), numRule(3, 2, 9, 1, -5, 4, 4))
	for num := -6; num < 12; num++ {
		chainIs(t, p, num, false, "t", chainByRule(p, num, false, "t"))
		said := "ret 327689"
		if slices.Contains([]int{9, 1, -5, 4}, num) {
			said = "ret 196610; tbz:; " + said
		}
		if slices.Contains([]int{2, 4, 6, 8}, num) {
			said = "ret 262145; taz:; " + said
		}
		chainIs(t, p, num, false, "t", linesOf(said))
		chainIs(t, p, num, true, "t", linesOf("ret 327689"))
	}
}

// A rule has the letter of its place in the policy, whichever are ahead of it in the chain.
func TestChainLinesLettersOfRules(t *testing.T) {
	const letters = "abcdefghijklmnopqrstuvwxyz"
	for at := range 26 {
		p := policyOf(slices.Repeat([]impl.Rule{numRule(0, 0, 1)}, 26)...)
		p.Rules[at] = numRule(4, at, 2)
		letter := letters[at : at+1]
		chainIs(t, p, 2, false, "t", linesOf("ret "+strconv.Itoa(262144+at)+"; t"+letter+"z:; ret 327689"))
		p.Rules[at].Nums, p.Rules[at].Conds = nil, []impl.Cond{plainCond()}
		said := "load 3; and 4294967295; eq 11 t%0a t%z; t%0a:; load 2; and 4294967295; eq 10 t%n0 t%z; t%n0:; ret " + strconv.Itoa(262144+at) + "; t%z:; ret 327689"
		for _, any := range []bool{false, true} {
			chainIs(t, p, 9, any, "t", linesOf(strings.ReplaceAll(said, "%", letter)))
		}
	}
}

// Up to the 26th rule there are letters; those behind it have none, and no lines.
func TestChainLinesOfMoreRulesThanLetters(t *testing.T) {
	for _, count := range []int{25, 26, 27, 28, 30, 52, 100, 5000} {
		p := policyOf()
		for i := range count {
			p.Rules = append(p.Rules, numRule(i%6, i, 7))
		}
		for _, num := range []int{7, 8} {
			chainIs(t, p, num, false, "t", chainByRule(p, num, false, "t"))
			chainIs(t, p, num, true, "t", linesOf("ret 327689"))
		}
		if lines := impl.ChainLines(p, 7, false, "t"); len(lines) != 2*min(count, 26)+1 || lines[len(lines)-1] != line(ret(327689)) || !impl.LinesOk(lines) {
			t.Errorf("ChainLines of %d rules are %s", count, linesSaid(lines))
		}
		for i := range p.Rules {
			p.Rules[i].Nums = nil
		}
		for _, any := range []bool{false, true} {
			chainIs(t, p, 8, any, "t", chainByRule(p, 8, any, "t"))
		}
	}
	// Only those behind the 26th have the number.
	p := policyOf(slices.Repeat([]impl.Rule{numRule(0, 0, 1)}, 26)...)
	p.Rules = append(p.Rules, numRule(4, 0, 2), anyRule(3, 0))
	chainIs(t, p, 2, false, "t", linesOf("ret 327689"))
	chainIs(t, p, 2, true, "t", linesOf("ret 327689"))
}

func TestChainLinesEndWithTheResultOfThePolicy(t *testing.T) {
	for _, action := range slices.Concat(actionNumbers, noActions) {
		for _, data := range slices.Concat(dataEdges, noData) {
			for _, any := range []bool{false, true} {
				p := impl.Policy{Action: action, Data: data, Rules: []impl.Rule{anyRule(1, 1), numRule(2, 2, 3)}}
				lines := impl.ChainLines(p, 3, any, "t")
				if lines[len(lines)-1] != line(ret(ownResult(action, data))) {
					t.Errorf("ChainLines of action %d and %d end with %+v", action, data, lines[len(lines)-1])
				}
				chainIs(t, p, 3, any, "t", chainByRule(p, 3, any, "t"))
			}
		}
	}
}

// By themselves, too, the lines of a chain do what the rules of their number tell.
func TestChainsDoWhatTheirRulesTell(t *testing.T) {
	r := rand.New(rand.NewPCG(13, 4))
	for i := range 1500 {
		x := nearCall(r, maskedCond(r, 1, 0))
		p := policyNear(r, x, i%11, i%11)
		for _, num := range numsNear(p) {
			lines := impl.ChainLines(p, num, false, "c")
			chainIs(t, p, num, false, "c", chainByRule(p, num, false, "c"))
			if len(lines) > 200 || r.IntN(4) > 0 {
				continue
			}
			x.Num = num
			endIs(t, programOf(t, lines), x, decidedByRule(p, x))
		}
		chainIs(t, p, x.Num, true, "c", chainByRule(p, 0, true, "c"))
	}
}

func TestTreeLinesKnown(t *testing.T) {
	p := policyOf(numRule(1, 1, 3, 5), anyRule(2, 2))
	own := func(base string) string {
		return "ret 65537; " + base + "az:; ret 131074; " + base + "bz:; ret 327689"
	}
	any := func(base string) string { return "ret 131074; " + base + "bz:; ret 327689" }
	leaf := func(num, base string, chain func(string) string) string {
		return "eq " + num + " " + base + "y " + base + "x; " + base + "y:; " + chain(base+"y") + "; " + base + "x:; " + any(base+"x")
	}
	treeIs(t, p, nil, "t", linesOf(any("t")))
	treeIs(t, p, []int{}, "t", linesOf(any("t")))
	treeIs(t, p, []int{3}, "t", linesOf(leaf("3", "t", own)))
	treeIs(t, p, []int{4}, "t", linesOf(leaf("4", "t", any)))
	treeIs(t, p, []int{3, 5}, "t", linesOf("least 5 th tl; tl:; "+leaf("3", "tl", own)+"; th:; "+leaf("5", "th", own)))
	treeIs(t, p, []int{3, 4, 5}, "t", linesOf("least 4 th tl; tl:; "+leaf("3", "tl", own)+
		"; th:; least 5 thh thl; thl:; "+leaf("4", "thl", any)+"; thh:; "+leaf("5", "thh", own)))
	treeIs(t, p, []int{3, 4, 5, 6}, "", linesOf("least 5 h l; l:; least 4 lh ll; ll:; "+leaf("3", "ll", own)+"; lh:; "+leaf("4", "lh", any)+
		"; h:; least 6 hh hl; hl:; "+leaf("5", "hl", own)+"; hh:; "+leaf("6", "hh", any)))
	treeIs(t, p, []int{1, 2, 3, 4, 5}, "b", linesOf("least 3 bh bl; bl:; least 2 blh bll; bll:; "+leaf("1", "bll", any)+"; blh:; "+leaf("2", "blh", any)+
		"; bh:; least 4 bhh bhl; bhl:; "+leaf("3", "bhl", own)+"; bhh:; least 5 bhhh bhhl; bhhl:; "+leaf("4", "bhhl", any)+"; bhhh:; "+leaf("5", "bhhh", own)))
	// As they stand: neither in order nor each once.
	treeIs(t, p, []int{5, 3}, "t", linesOf("least 3 th tl; tl:; "+leaf("5", "tl", own)+"; th:; "+leaf("3", "th", own)))
	treeIs(t, p, []int{3, 3}, "t", linesOf("least 3 th tl; tl:; "+leaf("3", "tl", own)+"; th:; "+leaf("3", "th", own)))
	treeIs(t, p, []int{5, 4, 4}, "t", linesOf("least 4 th tl; tl:; "+leaf("5", "tl", own)+"; th:; least 4 thh thl; thl:; "+leaf("4", "thl", any)+"; thh:; "+leaf("4", "thh", any)))
	treeIs(t, p, []int{-1}, "t", linesOf(leaf("-1", "t", any)))
}

// The tree is over the numbers handed in, whatever numbers the rules have.
func TestTreeLinesAreAsTheChapterSays(t *testing.T) {
	r := rand.New(rand.NewPCG(13, 5))
	bases := []string{"t", "", "x", "tly", "base", "\x00", "long and longer", "é"}
	for size := range 70 {
		for turn := range 6 {
			p := policyNear(r, plainCall(), r.IntN(5), 3)
			if turn == 5 {
				p.Rules = append(p.Rules, slices.Repeat([]impl.Rule{numRule(4, 1, 3), anyRule(4, 2)}, 14)...)
			}
			var nums []int
			for i := range size {
				switch turn {
				case 0:
					nums = append(nums, i)
				case 1:
					nums = append(nums, size-i)
				case 2:
					nums = append(nums, i/2)
				case 3:
					nums = append(nums, noHalves[i%len(noHalves)])
				default:
					nums = append(nums, drawnHalf(r))
				}
			}
			base := bases[r.IntN(len(bases))]
			treeIs(t, p, nums, base, treeByRule(p, nums, base))
		}
	}
}

// Of the numbers of a tree each comes to its own chain, and all others to that of any.
func TestTreesLeadToTheChainOfTheNumber(t *testing.T) {
	for size := range 21 {
		for _, step := range []int{1, 2, 5, 200000000} {
			p := policyOf(numRule(4, 0))
			p.Rules = nil
			var nums []int
			for i := range size {
				nums = append(nums, i*step)
				p.Rules = append(p.Rules, numRule(i%5, i, i*step))
			}
			words := programOf(t, slices.Concat([]impl.Line{line(load(0))}, impl.TreeLines(p, nums, "t")))
			around := policyOf(numRule(0, 0, nums...))
			for _, x := range ofNums(plainCall(), numsNear(around)) {
				want := 65536*5 + 9
				if at := slices.Index(nums, x.Num); at >= 0 {
					want = 65536*(at%5) + at
				}
				endIs(t, words, x, want)
			}
		}
	}
}

func TestPolicyLinesKnown(t *testing.T) {
	const ahead = "load 1; eq 62 p q; q:; ret 0; p:; load 0; "
	policyLinesAre(t, policyOf(), linesOf(ahead+"ret 327689"))
	policyLinesAre(t, policyOf(anyRule(4, 1)), linesOf(ahead+"ret 262145; taz:; ret 327689"))
	policyLinesAre(t, policyOf(numRule(4, 1, 7)), linesOf(ahead+"eq 7 ty tx; ty:; ret 262145; tyaz:; ret 327689; tx:; ret 327689"))
	policyLinesAre(t, policyOf(numRule(4, 1, 7), numRule(3, 2, 2)), linesOf(ahead+"least 7 th tl; tl:; eq 2 tly tlx; tly:; ret 196610; tlybz:; ret 327689; tlx:; ret 327689; "+
		"th:; eq 7 thy thx; thy:; ret 262145; thyaz:; ret 327689; thx:; ret 327689"))
	for _, p := range []impl.Policy{{}, policyOf(), policyOf(numRule(4, 1, 7)), fourRules()} {
		for _, arch := range slices.Concat(halfEdges, noHalves) {
			p.Arch = arch
			policyLinesAre(t, p, policyLinesByRule(p))
		}
	}
}

func TestPolicyLinesAreAsTheChapterSays(t *testing.T) {
	r := rand.New(rand.NewPCG(13, 6))
	for i := range 2000 {
		p := policyNear(r, nearCall(r, maskedCond(r, 1, 0)), i%11, r.IntN(11))
		lines := impl.PolicyLines(p)
		linesAre(t, "PolicyLines", lines, policyLinesByRule(p))
		linesAre(t, "behind the first six lines", lines[6:], impl.TreeLines(p, impl.NumsOf(p), "t"))
	}
	for _, p := range wrongPolicies() {
		if len(p.Rules) < 300 {
			policyLinesAre(t, p, policyLinesByRule(p))
		}
	}
}

// Labels are never too long, however many numbers and conditions a right policy has.
func TestPolicyLinesHaveLabelsWithinTheirLimit(t *testing.T) {
	p := policyOf()
	for i := range 10 {
		rule := condRule(4, i, plainCond(), anyCond(1), impl.Cond{Arg: 2, Cm: impl.CmMore})
		rule.Nums = []int{4 * i, 4*i + 1, 4*i + 2, 4*i + 3}
		p.Rules = append(p.Rules, rule)
	}
	policyOkIs(t, p, true)
	labels := map[string]int{}
	for _, l := range impl.PolicyLines(p) {
		if l.Ins.Op != 0 {
			continue
		}
		labels[l.Label]++
		if len(l.Label) < 1 || len(l.Label) > 12 || labels[l.Label] > 1 {
			t.Errorf("the place %q stands %d times, or its label is too long", l.Label, labels[l.Label])
		}
	}
}

func TestCompileIsTheLayoutOfPolicyLines(t *testing.T) {
	r := rand.New(rand.NewPCG(13, 7))
	codes := map[int]int{}
	for i := range 4000 {
		p := policyNear(r, nearCall(r, maskedCond(r, 1, 0)), i%11, r.IntN(11))
		lines := policyLinesByRule(p)
		words, code := impl.Compile(p)
		codes[code]++
		want, ok := impl.Layout(lines)
		if ok != (code == 0) || !slices.Equal(words, want) || !ok && code != impl.CeLong {
			t.Fatalf("Compile of %s = %d words and %d; want %d words", plainly(p), len(words), code, len(want))
		}
		if len(lines) < 150 {
			isLaidOut(t, lines)
			if !slices.Equal(words, wordsByRule(lines)) {
				t.Fatalf("Compile of %s = %+v; want %+v", plainly(p), words, wordsByRule(lines))
			}
		}
	}
	if codes[0] < 1000 || codes[impl.CeLong] < 100 {
		t.Errorf("of 4000 policies there are %v by code: too few to tell much", codes)
	}
}

func TestCompileKnown(t *testing.T) {
	words, code := impl.Compile(policyOf(numRule(4, 1, 7)))
	want := []impl.Ins{load(1), ask(3, 62, 1, 0), ret(0), load(0), ask(3, 7, 0, 2), ret(262145), ret(327689), ret(327689)}
	if code != 0 || !slices.Equal(words, want) {
		t.Errorf("Compile = %+v, %d; want %+v", words, code, want)
	}
	words, code = impl.Compile(policyOf())
	want = []impl.Ins{load(1), ask(3, 62, 1, 0), ret(0), load(0), ret(327689)}
	if code != 0 || !slices.Equal(words, want) {
		t.Errorf("Compile = %+v, %d; want %+v", words, code, want)
	}
}

// Each reason alone; where the lines would be too many as well, the form comes first.
func TestCompileOfWhatIsNotRight(t *testing.T) {
	for _, p := range wrongPolicies() {
		refusesToCompile(t, p, impl.CeForm)
	}
	refusesToCompile(t, impl.Policy{Arch: -1}, impl.CeForm)
	refusesToCompile(t, policyOf(slices.Repeat([]impl.Rule{anyRule(4, 1)}, 11)...), impl.CeForm)
	for _, wrong := range wrongRules() {
		p := manyLines()
		p.Rules[len(p.Rules)-1] = wrong
		refusesToCompile(t, p, impl.CeForm)
	}
	for _, n := range noHalves {
		p := manyLines()
		p.Arch = n
		refusesToCompile(t, p, impl.CeForm)
	}
	p := manyLines()
	p.Rules = append(p.Rules, anyRule(4, 1))
	refusesToCompile(t, p, impl.CeForm)
}

// shared are as many rules of any call, and numbers by fours of the other rules, up to MaxRules.
func shared(any int, nums ...int) impl.Policy {
	p := policyOf()
	for i := range any {
		p.Rules = append(p.Rules, anyRule(i%6, i))
	}
	for some := range slices.Chunk(nums, 4) {
		p.Rules = append(p.Rules, numRule(4, some[0], some...))
	}
	return p
}

func upTo(count int) []int {
	nums := make([]int, count)
	for i := range nums {
		nums[i] = i
	}
	return nums
}

// manyLines has 601 lines, which would be fewer than 400 words.
func manyLines() impl.Policy { return shared(4, upTo(23)...) }

// withinLines has 599 lines. (The lines of a policy are never as many as an even number.)
func withinLines() impl.Policy { return shared(3, append(upTo(24), 0, 24, 25, 26)...) }

func conded(cm int, nums ...int) impl.Rule {
	return impl.Rule{Nums: nums, Conds: []impl.Cond{{Arg: cm % 3, Mask: allBits, Cm: cm, Val: impl.Wide{Hi: 11, Lo: 10}}}, Action: cm % 6}
}

// wordsJustWithin has 400 words, the other one 401; neither has more than 600 lines.
func wordsJustWithin() impl.Policy {
	return policyOf(numRule(4, 0, 0, 1, 2), numRule(4, 1, 3, 4), conded(2), numRule(4, 2, 5), numRule(4, 3, 6, 7, 8, 9), conded(2, 10, 11, 12), conded(2, 13), conded(2, 14, 15, 16))
}

func wordsTooMany() impl.Policy {
	return policyOf(numRule(4, 0, 0), conded(1, 1, 2, 3, 4), numRule(4, 1, 5, 6, 7), numRule(4, 2, 8, 9, 10), numRule(4, 3, 11, 12), numRule(4, 4, 13, 14, 15), conded(3))
}

func TestCompileAtTheLimits(t *testing.T) {
	known := []struct {
		p            impl.Policy
		lines, words int
		code         int
	}{
		{withinLines(), 599, 321, 0}, {manyLines(), 601, 316, impl.CeLong}, {wordsJustWithin(), 569, 400, 0}, {wordsTooMany(), 579, 401, impl.CeLong},
	}
	for _, k := range known {
		policyOkIs(t, k.p, true)
		lines := impl.PolicyLines(k.p)
		linesAre(t, "PolicyLines", lines, policyLinesByRule(k.p))
		if len(lines) != k.lines {
			t.Errorf("PolicyLines are %d; want %d", len(lines), k.lines)
		}
		// That other limit alone would let it by, or refuse it.
		if words := wordsByRule(lines); len(words) != k.words {
			t.Errorf("by the rule there are %d words; want %d", len(words), k.words)
		}
		if k.code != 0 {
			refusesToCompile(t, k.p, k.code)
			continue
		}
		words := compiles(t, k.p)
		if len(words) != k.words {
			t.Errorf("Compile has %d words; want %d", len(words), k.words)
		}
		doesWhatItTells(t, k.p, words, ofNums(plainCall(), numsNear(k.p))...)
	}
}

// Far beyond both limits.
func TestCompileOfWhatIsLong(t *testing.T) {
	for any := 1; any < 10; any++ {
		p := policyOf()
		for i := range 10 {
			rule := condRule(4, i, plainCond(), anyCond(1), failingCond())
			if i >= any {
				rule.Nums = []int{4 * i, 4*i + 1, 4*i + 2, 4*i + 3}
			}
			p.Rules = append(p.Rules, rule)
		}
		policyOkIs(t, p, true)
		refusesToCompile(t, p, impl.CeLong)
		policyLinesAre(t, p, policyLinesByRule(p))
		slices.Reverse(p.Rules)
		refusesToCompile(t, p, impl.CeLong)
	}
	// More words than there may be, of fewer lines than there may be: the ten rules are of any call, or of one.
	for _, nums := range [][]int{nil, {1}} {
		p := policyOf(slices.Repeat([]impl.Rule{{Nums: nums, Conds: []impl.Cond{conded(4).Conds[0], conded(5).Conds[0], conded(6).Conds[0]}, Action: 4}}, 10)...)
		words, code := impl.Compile(p)
		lines := policyLinesByRule(p)
		if want, ok := impl.Layout(lines); ok != (code == 0) || !slices.Equal(words, want) {
			t.Errorf("Compile of ten rules = %d words and %d; Layout has %d", len(words), code, len(want))
		}
	}
}

// askAll calls all five with a policy, and tells what they answer.
func askAll(p impl.Policy, nums []int, base string) []any {
	words, code := impl.Compile(p)
	return []any{impl.NumsOf(p), impl.ChainLines(p, 1, false, base), impl.ChainLines(p, 1, true, base), impl.TreeLines(p, nums, base), impl.PolicyLines(p), words, code}
}

func TestCompilingWritesIntoNothing(t *testing.T) {
	for size := range 13 {
		p, x := withRoom(size)
		before := allOf(p, x)
		nums := []int{9, 3, 3, 1, 5, 0, 77, 78}
		for count := range 7 {
			askAll(p, nums[:count], "t")
			askAll(p, nums[:count:count], "t")
		}
		if !reflect.DeepEqual(allOf(p, x), before) || !slices.Equal(nums, []int{9, 3, 3, 1, 5, 0, 77, 78}) {
			t.Errorf("with %d rules something was written into an argument or behind it", size)
		}
	}
	// One rule's numbers with room behind them, which are all of the policy's.
	room := []int{3, 2, 1, 1, 77, 78}
	p := policyOf(numRule(4, 0, room[:4]...))
	p.Rules[0].Nums = room[:4]
	numsAre(t, p, 1, 2, 3)
	clear(impl.NumsOf(p))
	if !slices.Equal(room, []int{3, 2, 1, 1, 77, 78}) {
		t.Errorf("NumsOf writes into a rule's numbers, or behind them: %v", room)
	}
}

func TestWhatIsCompiledIsNewMemory(t *testing.T) {
	base := strings.Clone("base")
	p := fourRules()
	room := slices.Clone(p.Rules[2].Nums)
	for _, nums := range [][]int{nil, {1}, {5, 7}, {1, 2, 3, 4, 5}} {
		for _, lines := range [][]impl.Line{impl.ChainLines(p, 5, false, base), impl.ChainLines(p, 5, true, base), impl.TreeLines(p, nums, base)} {
			for _, l := range lines {
				for _, label := range []string{l.Label, l.Yes, l.No} {
					if sharesMemory(label, base) {
						t.Fatalf("a line shares its label %q with an argument", label)
					}
				}
			}
		}
		first := askAll(p, nums, base)
		for range 2 {
			again := askAll(p, nums, base)
			if !reflect.DeepEqual(first, again) {
				t.Fatal("asked again, something else is answered")
			}
			for _, list := range again {
				switch list := list.(type) {
				case []int:
					clear(list[:cap(list)])
				case []impl.Line:
					clear(list[:cap(list)])
				case []impl.Ins:
					clear(list[:cap(list)])
				}
			}
			// What is refused leaves nothing behind.
			refusesToCompile(t, impl.Policy{Arch: -1}, impl.CeForm)
			refusesToCompile(t, manyLines(), impl.CeLong)
		}
	}
	if !slices.Equal(p.Rules[2].Nums, room) || !impl.SamePolicy(p, fourRules()) {
		t.Errorf("clearing what was answered changed the policy: %+v", p)
	}
}

// Whatever comes in, all five answer, the same each time.
func TestCompilingAnswersAtEveryArgument(t *testing.T) {
	numbers := slices.Concat(noArgs, noCms, noHalves, noActions, []int{0, 1, 2, 3, 5, 62, math.MinInt, math.MaxInt, impl.MaxHalf})
	labels := someLabels()
	r := rand.New(rand.NewPCG(13, 8))
	number := func() int {
		if r.IntN(2) == 0 {
			return 1 + r.IntN(3)
		}
		return numbers[r.IntN(len(numbers))]
	}
	some := func() []int {
		var list []int
		for range r.IntN(6) {
			list = append(list, number())
		}
		return list
	}
	for range 4000 {
		p := impl.Policy{Arch: number(), Action: number(), Data: number()}
		for range r.IntN(5) {
			rule := impl.Rule{Nums: some(), Action: number(), Data: number()}
			for range r.IntN(4) {
				rule.Conds = append(rule.Conds, impl.Cond{Arg: number(), Mask: impl.Wide{Hi: number(), Lo: number()}, Cm: number(), Val: impl.Wide{Hi: number(), Lo: number()}})
			}
			p.Rules = append(p.Rules, rule)
		}
		base, num, nums := labels[r.IntN(len(labels))], number(), some()
		numsAre(t, p, numsByRule(p)...)
		for _, any := range []bool{false, true} {
			chainIs(t, p, num, any, base, chainByRule(p, num, any, base))
		}
		treeIs(t, p, nums, base, treeByRule(p, nums, base))
		policyLinesAre(t, p, policyLinesByRule(p))
		if !policyIsRight(p) {
			refusesToCompile(t, p, impl.CeForm)
		}
		if !reflect.DeepEqual(askAll(p, nums, base), askAll(p, nums, base)) {
			t.Fatalf("asked again, something else is answered: %+v", p)
		}
	}
}

func TestCompilingOfGreatLengths(t *testing.T) {
	long := strings.Repeat("label", 100000)
	p := fourRules()
	chainIs(t, p, 5, false, long, chainByRule(p, 5, false, long))
	treeIs(t, p, []int{5, 7, 9}, long, treeByRule(p, []int{5, 7, 9}, long))
	many := upTo(20000)
	lone := policyOf(numRule(4, 1, 7))
	treeIs(t, lone, many, "t", treeByRule(lone, many, "t"))
	lone.Rules[0].Nums = many
	policyLinesAre(t, lone, policyLinesByRule(lone))
	refusesToCompile(t, lone, impl.CeForm)
	crowd := policyOf(slices.Repeat([]impl.Rule{anyRule(4, 1), numRule(3, 2, 5, 7)}, 50000)...)
	chainIs(t, crowd, 5, false, "t", chainByRule(crowd, 5, false, "t"))
	policyLinesAre(t, crowd, policyLinesByRule(crowd))
	numsAre(t, crowd, 5, 7)
	refusesToCompile(t, crowd, impl.CeForm)
	deep := policyOf(impl.Rule{Conds: slices.Repeat([]impl.Cond{plainCond()}, 5000), Action: 4})
	chainIs(t, deep, 5, true, "t", chainByRule(deep, 5, true, "t"))
	refusesToCompile(t, deep, impl.CeForm)
}
