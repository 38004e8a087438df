package tests

import (
	"math"
	"math/rand/v2"
	"reflect"
	"slices"
	"testing"

	"loop.example/g00397/impl"
)

// Promise 9: The first rule that holds decides.

// sixCms are the comparisons as the document numbers them, not as the program names them.
var sixCms = []int{1, 2, 3, 4, 5, 6}

// noCms are just outside, far outside, and those whose low bits are a comparison.
var noCms = []int{math.MinInt, math.MinInt + 1, math.MinInt + 6, -1 << 32, -1<<32 + 3, -6, -2, -1, 0, 7, 8, 9, 256, 257, 262, 65537, 1 << 32, 1<<32 + 1, 1<<32 + 6, 1<<62 + 3, math.MaxInt - 1, math.MaxInt}

// noArgs are places at which a call has none of its Args.
var noArgs = []int{math.MinInt, math.MinInt + 1, -1 << 32, -1<<32 + 1, -3, -2, -1, 3, 4, 5, 256, 258, 1 << 32, 1<<32 + 2, math.MaxInt - 1, math.MaxInt}

var allBits = impl.Wide{Hi: 4294967295, Lo: 4294967295}

// someMasks have no bits, all, those of one half, and some of both.
var someMasks = []impl.Wide{{}, allBits, {Hi: 4294967295}, {Lo: 4294967295}, {Hi: 1}, {Lo: 1}, {Hi: 2147483648, Lo: 1}, {Hi: 2863311530, Lo: 1431655765}}

// condIsRight is the chapter's rule of a condition.
func condIsRight(c impl.Cond) bool {
	halves := []int{c.Mask.Hi, c.Mask.Lo, c.Val.Hi, c.Val.Lo}
	none := func(n int) bool { return n < 0 || n > 4294967295 }
	return c.Arg >= 0 && c.Arg <= 2 && !slices.ContainsFunc(halves, none) && slices.Contains(sixCms, c.Cm)
}

// condByRule has the wide numbers as numbers of 64 bits; both the condition and the call are right.
func condByRule(c impl.Cond, x impl.Call) bool {
	arg, val := whole(x.Args[c.Arg])&whole(c.Mask), whole(c.Val)
	return []bool{1: arg == val, 2: arg != val, 3: arg < val, 4: arg <= val, 5: arg > val, 6: arg >= val}[c.Cm]
}

func ruleByRule(r impl.Rule, x impl.Call) bool {
	if len(r.Nums) > 0 && slices.Index(r.Nums, x.Num) < 0 {
		return false
	}
	fails := func(c impl.Cond) bool { return !condByRule(c, x) }
	return !slices.ContainsFunc(r.Conds, fails)
}

// firstThatHolds is -1 where none does.
func firstThatHolds(rules []impl.Rule, x impl.Call) int {
	return slices.IndexFunc(rules, func(r impl.Rule) bool { return ruleByRule(r, x) })
}

// plainCond holds of plainCall.
func plainCond() impl.Cond {
	return impl.Cond{Arg: 0, Mask: allBits, Cm: impl.CmEq, Val: impl.Wide{Hi: 11, Lo: 10}}
}

// failingCond is right, and holds of no call.
func failingCond() impl.Cond { return impl.Cond{Cm: impl.CmNot} }

// anyCond is right, and holds of every right call.
func anyCond(arg int) impl.Cond { return impl.Cond{Arg: arg, Cm: impl.CmEq} }

// anyRule is of any call.
func anyRule(action, data int) impl.Rule { return impl.Rule{Action: action, Data: data} }

func numRule(action, data int, nums ...int) impl.Rule {
	return impl.Rule{Nums: nums, Action: action, Data: data}
}

func condRule(action, data int, conds ...impl.Cond) impl.Rule {
	return impl.Rule{Conds: conds, Action: action, Data: data}
}

// policyOf is of plainCall's Arch, and allows what no rule is of.
func policyOf(rules ...impl.Rule) impl.Policy {
	return impl.Policy{Arch: 62, Action: impl.ActAllow, Data: 9, Rules: rules}
}

func condOkIs(t *testing.T, c impl.Cond, want bool) {
	t.Helper()
	if got := impl.CondOk(c); got != want {
		t.Errorf("CondOk(%+v) = %v; want %v", c, got, want)
	}
}

func policyOkIs(t *testing.T, p impl.Policy, want bool) {
	t.Helper()
	if got := impl.PolicyOk(p); got != want {
		t.Errorf("PolicyOk(%+v) = %v; want %v", p, got, want)
	}
}

func condHoldsIs(t *testing.T, c impl.Cond, x impl.Call, want bool) {
	t.Helper()
	if got := impl.CondHolds(c, x); got != want {
		t.Errorf("CondHolds(%+v, %+v) = %v; want %v", c, x, got, want)
	}
}

func ruleHoldsIs(t *testing.T, r impl.Rule, x impl.Call, want bool) {
	t.Helper()
	if got := impl.RuleHolds(r, x); got != want {
		t.Errorf("RuleHolds(%+v, %+v) = %v; want %v", r, x, got, want)
	}
}

func decideIs(t *testing.T, p impl.Policy, x impl.Call, want int) {
	t.Helper()
	if got := impl.Decide(p, x); got != want {
		t.Errorf("Decide(%+v, %+v) = %d; want %d", p, x, got, want)
	}
}

// wrongConds are plainCond with one field that is wrong.
func wrongConds() []impl.Cond {
	var conds []impl.Cond
	add := func(change func(c *impl.Cond)) {
		c := plainCond()
		change(&c)
		conds = append(conds, c)
	}
	for _, arg := range noArgs {
		add(func(c *impl.Cond) { c.Arg = arg })
	}
	for _, cm := range noCms {
		add(func(c *impl.Cond) { c.Cm = cm })
	}
	for _, n := range noHalves {
		add(func(c *impl.Cond) { c.Mask.Hi = n })
		add(func(c *impl.Cond) { c.Mask.Lo = n })
		add(func(c *impl.Cond) { c.Val.Hi = n })
		add(func(c *impl.Cond) { c.Val.Lo = n })
	}
	return conds
}

// wrongRules would hold of plainCall, were they right, or do though they are not.
func wrongRules() []impl.Rule {
	rules := []impl.Rule{
		numRule(4, 0, 1, 2, 3, 4, 5), numRule(4, 0, 0, 1, 2, 3, 4), numRule(4, 0, 1, 1), numRule(4, 0, 0, 1, 1), numRule(4, 0, 1, 0), numRule(4, 0, 0, 2, 1), numRule(4, 0, 1, 2, 2),
		condRule(4, 0, plainCond(), plainCond(), plainCond(), plainCond()),
	}
	for _, action := range noActions {
		rules = append(rules, anyRule(action, 0))
	}
	for _, data := range noData {
		rules = append(rules, anyRule(4, data))
	}
	for _, n := range noHalves {
		rules = append(rules, numRule(4, 0, n), numRule(4, 0, min(n, 1), max(n, 1)))
	}
	for _, c := range wrongConds() {
		rules = append(rules, condRule(4, 0, c), condRule(4, 0, plainCond(), plainCond(), c))
	}
	return rules
}

// wrongPolicies are of plainCall's Arch where that is not what is wrong with them.
func wrongPolicies() []impl.Policy {
	var policies []impl.Policy
	for _, n := range noHalves {
		policies = append(policies, impl.Policy{Arch: n, Action: 5, Rules: []impl.Rule{anyRule(4, 1)}})
	}
	for _, action := range noActions {
		policies = append(policies, impl.Policy{Arch: 62, Action: action, Rules: []impl.Rule{anyRule(4, 1)}})
	}
	for _, data := range noData {
		policies = append(policies, impl.Policy{Arch: 62, Action: 5, Data: data, Rules: []impl.Rule{anyRule(4, 1)}})
	}
	for _, count := range []int{11, 12, 20, 256, 266, 1000} {
		policies = append(policies, policyOf(slices.Repeat([]impl.Rule{anyRule(4, 1)}, count)...))
	}
	for _, r := range wrongRules() {
		policies = append(policies, policyOf(r), policyOf(r, anyRule(4, 1)), policyOf(anyRule(4, 1), r))
	}
	return policies
}

// drawnWide is often one that a call has, so that all six comparisons come out both ways.
func drawnWide(r *rand.Rand) impl.Wide {
	halves := []int{0, 1, 10, 11, 20, 2147483648, 4294967295}
	return impl.Wide{Hi: halves[r.IntN(len(halves))], Lo: halves[r.IntN(len(halves))]}
}

func drawnCond(r *rand.Rand) impl.Cond {
	return impl.Cond{Arg: r.IntN(3), Mask: someMasks[r.IntN(len(someMasks))], Cm: 1 + r.IntN(6), Val: drawnWide(r)}
}

func drawnRule(r *rand.Rand) impl.Rule {
	rule := impl.Rule{Action: r.IntN(6), Data: dataEdges[r.IntN(len(dataEdges))]}
	for _, num := range []int{0, 1, 2, 3, 4294967295} {
		if len(rule.Nums) < 4 && r.IntN(3) == 0 {
			rule.Nums = append(rule.Nums, num)
		}
	}
	for range r.IntN(4) {
		rule.Conds = append(rule.Conds, drawnCond(r))
	}
	return rule
}

func drawnPolicy(r *rand.Rand, count int) impl.Policy {
	p := impl.Policy{Arch: 62, Action: r.IntN(6), Data: dataEdges[r.IntN(len(dataEdges))]}
	for range count {
		p.Rules = append(p.Rules, drawnRule(r))
	}
	return p
}

func drawnCall(r *rand.Rand) impl.Call {
	nums := []int{0, 1, 2, 3, 4, 4294967295}
	return impl.Call{Arch: 62, Num: nums[r.IntN(len(nums))], Args: []impl.Wide{drawnWide(r), drawnWide(r), drawnWide(r)}}
}

func TestPolicyConstants(t *testing.T) {
	got := []int{impl.CmEq, impl.CmNot, impl.CmLess, impl.CmMost, impl.CmMore, impl.CmLeast, impl.MaxRules}
	if !slices.Equal(got, []int{1, 2, 3, 4, 5, 6, 10}) {
		t.Errorf("the constants of chapter 9 are %v", got)
	}
}

// Many right policies and calls: the first rule that holds decides, however many behind it hold, too.
func TestFirstRuleThatHoldsDecides(t *testing.T) {
	r := rand.New(rand.NewPCG(9, 1))
	decided, others := map[int]int{}, 0
	for i := range 40000 {
		p, x := drawnPolicy(r, i%11), drawnCall(r)
		policyOkIs(t, p, true)
		first, want := firstThatHolds(p.Rules, x), 65536*p.Action+p.Data
		if first >= 0 {
			want = 65536*p.Rules[first].Action + p.Rules[first].Data
			if firstThatHolds(p.Rules[first+1:], x) >= 0 {
				others++
			}
		}
		decided[first]++
		decideIs(t, p, x, want)
		for _, rule := range p.Rules {
			ruleHoldsIs(t, rule, x, ruleByRule(rule, x))
		}
	}
	for place := -1; place < 10; place++ {
		if decided[place] < 20 {
			t.Errorf("the rule at %d decides %d times, too few to tell much", place, decided[place])
		}
	}
	if others < 1000 {
		t.Errorf("another one behind holds %d times, too few to tell much", others)
	}
}

// Of MaxRules rules the one at a place is the first that holds, and none, all or the last behind it hold, too.
func TestDecideAtEveryPlace(t *testing.T) {
	for count := range 11 {
		for first := range count + 1 {
			var lone, all, last impl.Policy = policyOf(), policyOf(), policyOf()
			for place := range count {
				holding, failing := numRule(place%6, 100+place, 1), numRule(place%6, 100+place, 2)
				some := failing
				if place >= first {
					some = holding
				}
				all.Rules = append(all.Rules, some)
				if place > first {
					some = failing
				}
				lone.Rules = append(lone.Rules, some)
				if place == count-1 && place >= first {
					some = holding
				}
				last.Rules = append(last.Rules, some)
			}
			want := 65536*5 + 9
			if first < count {
				want = 65536*(first%6) + 100 + first
			}
			decideIs(t, lone, ofNum(1), want)
			decideIs(t, all, ofNum(1), want)
			decideIs(t, last, ofNum(1), want)
		}
	}
}

// It is the place that counts: not which is stricter, milder, has more Nums or more Conds.
func TestDecideInAnotherOrder(t *testing.T) {
	rules := []impl.Rule{
		anyRule(4, 1), numRule(0, 2, 1), condRule(5, 3, plainCond()), numRule(2, 4, 0, 1, 2, 3), {Nums: []int{1}, Conds: []impl.Cond{plainCond(), anyCond(1), anyCond(2)}, Action: 1, Data: 5},
		anyRule(3, 6), numRule(5, 7, 1, 4294967295), condRule(0, 8, anyCond(2)), numRule(4, 9, 0, 1), anyRule(1, 10),
	}
	for turn := range rules {
		mixed := slices.Concat(rules[turn:], rules[:turn])
		decideIs(t, policyOf(mixed...), plainCall(), 65536*mixed[0].Action+mixed[0].Data)
		back := slices.Clone(mixed)
		slices.Reverse(back)
		decideIs(t, policyOf(back...), plainCall(), 65536*back[0].Action+back[0].Data)
		for _, place := range []int{1, 4, 9} {
			late := slices.Clone(mixed)
			for i := range place {
				late[i].Conds = []impl.Cond{failingCond()}
			}
			decideIs(t, policyOf(late...), plainCall(), 65536*mixed[place].Action+mixed[place].Data)
		}
	}
}

func TestDecideOfTwoRulesOfOneNumber(t *testing.T) {
	for _, a := range actionNumbers {
		for _, b := range actionNumbers {
			one, other := numRule(a, 1, 1), numRule(b, 2, 1)
			decideIs(t, policyOf(one, other), ofNum(1), 65536*a+1)
			decideIs(t, policyOf(other, one), ofNum(1), 65536*b+2)
			decideIs(t, policyOf(one, other), ofNum(2), 65536*5+9)
			one.Conds = []impl.Cond{failingCond()}
			decideIs(t, policyOf(one, other), ofNum(1), 65536*b+2)
			decideIs(t, policyOf(other, one), ofNum(1), 65536*b+2)
		}
	}
}

func TestDecideWithRulesOfAnyCall(t *testing.T) {
	one, any := numRule(2, 1, 1), anyRule(3, 2)
	for _, num := range halfEdges {
		want := 65536*3 + 2
		decideIs(t, policyOf(any, one), ofNum(num), want)
		decideIs(t, policyOf(any), ofNum(num), want)
		if num == 1 {
			want = 65536*2 + 1
		}
		decideIs(t, policyOf(one, any), ofNum(num), want)
		decideIs(t, policyOf(one, any, one), ofNum(num), want)
		decideIs(t, policyOf(one, one, any, anyRule(0, 0)), ofNum(num), want)
	}
	// One of any call whose Conds fail is passed over.
	passed := condRule(3, 2, failingCond())
	decideIs(t, policyOf(passed, one), ofNum(1), 65536*2+1)
	decideIs(t, policyOf(passed, one), ofNum(2), 65536*5+9)
}

// Each action and each number beside it is told as it is, of a rule and of the policy.
func TestDecideTellsActionAndData(t *testing.T) {
	for _, action := range actionNumbers {
		for _, data := range dataEdges {
			want := 65536*action + data
			decideIs(t, policyOf(anyRule(action, data)), plainCall(), want)
			decideIs(t, impl.Policy{Arch: 62, Action: action, Data: data}, plainCall(), want)
			decideIs(t, impl.Policy{Arch: 62, Action: action, Data: data, Rules: []impl.Rule{numRule(1, 1, 2), condRule(1, 1, failingCond())}}, plainCall(), want)
			if want != impl.ResultOf(action, data) {
				t.Errorf("ResultOf(%d, %d) is not %d", action, data, want)
			}
		}
	}
}

func TestDecideOfAnotherArch(t *testing.T) {
	for _, of := range halfEdges {
		for _, asked := range halfEdges {
			p, x := policyOf(anyRule(4, 7)), plainCall()
			p.Arch, x.Arch = of, asked
			want := 0
			if of == asked {
				want = 65536*4 + 7
			}
			decideIs(t, p, x, want)
			p.Rules = nil
			if of == asked {
				want = 65536*5 + 9
			}
			decideIs(t, p, x, want)
		}
	}
	p := policyOf(anyRule(4, 7), numRule(4, 7, 1))
	for _, arch := range []int{61, 63, 62 + 1<<31} {
		x := plainCall()
		x.Arch = arch
		decideIs(t, p, x, 0)
	}
}

// A rule would hold, or the policy would allow, were all of it right.
func TestDecideOfWhatIsNotRight(t *testing.T) {
	for _, p := range wrongPolicies() {
		x := plainCall()
		decideIs(t, p, x, 0)
		x.Arch = p.Arch
		decideIs(t, p, x, 0)
		p.Rules = append([]impl.Rule{anyRule(4, 1)}, p.Rules...)
		decideIs(t, p, x, 0)
	}
	for _, x := range wrongCalls() {
		for _, rules := range [][]impl.Rule{nil, {anyRule(4, 1)}, {numRule(4, 1, 1)}, {condRule(4, 1, anyCond(0))}} {
			p := policyOf(rules...)
			decideIs(t, p, x, 0)
			p.Arch = x.Arch
			decideIs(t, p, x, 0)
		}
	}
}

func TestCondHoldsKnown(t *testing.T) {
	val := impl.Wide{Hi: 5, Lo: 50}
	known := []struct {
		arg  impl.Wide
		want []bool // by the six, in order
	}{
		{impl.Wide{Hi: 5, Lo: 49}, []bool{false, true, true, true, false, false}},
		{impl.Wide{Hi: 5, Lo: 50}, []bool{true, false, false, true, false, true}},
		{impl.Wide{Hi: 5, Lo: 51}, []bool{false, true, false, false, true, true}},
		{impl.Wide{Hi: 4, Lo: 50}, []bool{false, true, true, true, false, false}},
		{impl.Wide{Hi: 6, Lo: 50}, []bool{false, true, false, false, true, true}},
		{impl.Wide{Hi: 4, Lo: 49}, []bool{false, true, true, true, false, false}},
		{impl.Wide{Hi: 6, Lo: 51}, []bool{false, true, false, false, true, true}},
		{impl.Wide{Hi: 4, Lo: 51}, []bool{false, true, true, true, false, false}},
		{impl.Wide{Hi: 6, Lo: 49}, []bool{false, true, false, false, true, true}},
		{impl.Wide{Hi: 4, Lo: impl.MaxHalf}, []bool{false, true, true, true, false, false}},
		{impl.Wide{Hi: 6, Lo: 0}, []bool{false, true, false, false, true, true}},
		{impl.Wide{Hi: 0, Lo: 50}, []bool{false, true, true, true, false, false}},
		{impl.Wide{Hi: 50, Lo: 5}, []bool{false, true, false, false, true, true}},
	}
	for _, k := range known {
		for arg := range 3 {
			for i, cm := range []int{impl.CmEq, impl.CmNot, impl.CmLess, impl.CmMost, impl.CmMore, impl.CmLeast} {
				condHoldsIs(t, impl.Cond{Arg: arg, Mask: allBits, Cm: cm, Val: val}, withArg(arg, k.arg), k.want[i])
			}
		}
	}
}

func TestCondHoldsAsOfWholeNumbers(t *testing.T) {
	wides := widesOf(halfEdges)
	for _, arg := range wides {
		x := withArg(1, arg)
		for _, val := range wides {
			for _, mask := range someMasks {
				for _, cm := range sixCms {
					c := impl.Cond{Arg: 1, Mask: mask, Cm: cm, Val: val}
					condHoldsIs(t, c, x, condByRule(c, x))
				}
			}
		}
	}
}

// Of each pair that are unlike just one holds, whatever the call; less or the same is at most, more or the same at least.
func TestCondHoldsOfPairs(t *testing.T) {
	r := rand.New(rand.NewPCG(9, 2))
	for range 20000 {
		c, x := drawnCond(r), drawnCall(r)
		holds := map[int]bool{}
		for _, c.Cm = range sixCms {
			holds[c.Cm] = impl.CondHolds(c, x)
		}
		if holds[1] == holds[2] || holds[3] == holds[6] || holds[4] == holds[5] {
			t.Errorf("of %+v two that are unlike hold, or none: %v", c, holds)
		}
		if holds[4] != (holds[3] || holds[1]) || holds[6] != (holds[5] || holds[1]) || holds[3] && holds[5] {
			t.Errorf("of %+v at most or at least is not less, more or the same: %v", c, holds)
		}
	}
}

// The value is not put under the Mask: bits of it that the Mask has not are never the same.
func TestCondHoldsByItsMask(t *testing.T) {
	x := withArg(0, impl.Wide{Hi: 6, Lo: 5})
	known := []struct {
		mask, left impl.Wide
	}{
		{impl.Wide{}, impl.Wide{}},
		{allBits, impl.Wide{Hi: 6, Lo: 5}},
		{impl.Wide{Hi: impl.MaxHalf}, impl.Wide{Hi: 6}},
		{impl.Wide{Lo: impl.MaxHalf}, impl.Wide{Lo: 5}},
		{impl.Wide{Hi: 2, Lo: 4}, impl.Wide{Hi: 2, Lo: 4}},
		{impl.Wide{Hi: 9, Lo: 10}, impl.Wide{}},
		{impl.Wide{Hi: 5, Lo: 6}, impl.Wide{Hi: 4, Lo: 4}},
	}
	for _, k := range known {
		condHoldsIs(t, impl.Cond{Mask: k.mask, Cm: impl.CmEq, Val: k.left}, x, true)
		condHoldsIs(t, impl.Cond{Mask: k.mask, Cm: impl.CmNot, Val: k.left}, x, false)
		condHoldsIs(t, impl.Cond{Mask: k.mask, Cm: impl.CmMost, Val: k.left}, x, true)
		condHoldsIs(t, impl.Cond{Mask: k.mask, Cm: impl.CmLeast, Val: k.left}, x, true)
		condHoldsIs(t, impl.Cond{Mask: k.mask, Cm: impl.CmLess, Val: k.left}, x, false)
		condHoldsIs(t, impl.Cond{Mask: k.mask, Cm: impl.CmMore, Val: k.left}, x, false)
		beyond := impl.Wide{Hi: k.left.Hi, Lo: k.left.Lo | 1<<31}
		if k.mask.Lo < 1<<31 {
			condHoldsIs(t, impl.Cond{Mask: k.mask, Cm: impl.CmEq, Val: beyond}, x, false)
			condHoldsIs(t, impl.Cond{Mask: k.mask, Cm: impl.CmLess, Val: beyond}, x, true)
		}
	}
	// Without any bit every call is alike.
	for _, x := range rightCalls() {
		for arg := range 3 {
			for i, want := range []bool{true, false, false, true, false, true} {
				condHoldsIs(t, impl.Cond{Arg: arg, Cm: 1 + i}, x, want)
			}
			condHoldsIs(t, impl.Cond{Arg: arg, Cm: impl.CmLess, Val: impl.Wide{Lo: 1}}, x, true)
			condHoldsIs(t, impl.Cond{Arg: arg, Cm: impl.CmMost, Val: allBits}, x, true)
		}
	}
}

func TestCondHoldsOfHalvesThatAreAllBits(t *testing.T) {
	for _, mask := range []impl.Wide{allBits, {Hi: impl.MaxHalf}, {Lo: impl.MaxHalf}} {
		for i, want := range []bool{true, false, false, true, false, true} {
			condHoldsIs(t, impl.Cond{Arg: 2, Mask: mask, Cm: 1 + i, Val: mask}, withArg(2, allBits), want)
		}
		for i, want := range []bool{false, true, true, true, false, false} {
			condHoldsIs(t, impl.Cond{Arg: 2, Mask: mask, Cm: 1 + i, Val: mask}, withArg(2, impl.Wide{Hi: impl.MaxHalf - 1, Lo: impl.MaxHalf - 1}), want)
		}
		for i, want := range []bool{false, true, false, false, true, true} {
			condHoldsIs(t, impl.Cond{Arg: 2, Mask: mask, Cm: 1 + i}, withArg(2, allBits), want)
		}
	}
}

// Each of the Args is asked for by its place, and no other one counts, nor Arch, nor Num.
func TestCondHoldsOfEachArg(t *testing.T) {
	for arg, val := range []impl.Wide{{Hi: 11, Lo: 10}, {Hi: 21, Lo: 20}, {Hi: 31, Lo: 30}} {
		for other := range 3 {
			condHoldsIs(t, impl.Cond{Arg: other, Mask: allBits, Cm: impl.CmEq, Val: val}, plainCall(), other == arg)
			if other == arg {
				continue
			}
			for _, w := range []impl.Wide{{}, val, allBits} {
				condHoldsIs(t, impl.Cond{Arg: arg, Mask: allBits, Cm: impl.CmEq, Val: val}, withArg(other, w), true)
			}
		}
		for _, half := range halfEdges {
			x := ofNum(half)
			x.Arch = half
			condHoldsIs(t, impl.Cond{Arg: arg, Mask: allBits, Cm: impl.CmEq, Val: val}, x, true)
		}
	}
}

// A condition that is not right holds of no call, and none holds of a call that is not right.
func TestCondHoldsOfWhatIsNotRight(t *testing.T) {
	for _, c := range wrongConds() {
		for _, x := range []impl.Call{plainCall(), {Args: make([]impl.Wide, 3)}, withArg(0, allBits)} {
			condHoldsIs(t, c, x, false)
			for _, cm := range sixCms {
				if with := c; slices.Contains(sixCms, c.Cm) {
					with.Cm = cm
					condHoldsIs(t, with, x, false)
				}
			}
		}
	}
	for _, x := range wrongCalls() {
		for arg := range 3 {
			for _, cm := range sixCms {
				condHoldsIs(t, impl.Cond{Arg: arg, Cm: cm}, x, false)
				condHoldsIs(t, impl.Cond{Arg: arg, Mask: allBits, Cm: cm}, x, false)
				condHoldsIs(t, impl.Cond{Arg: arg, Mask: allBits, Cm: cm, Val: allBits}, x, false)
			}
		}
	}
}

func TestCondOk(t *testing.T) {
	condOkIs(t, plainCond(), true)
	condOkIs(t, impl.Cond{}, false)
	condOkIs(t, impl.Cond{Cm: 1}, true)
	condOkIs(t, impl.Cond{Arg: impl.ArgCount - 1, Mask: allBits, Cm: impl.CmLeast, Val: allBits}, true)
	for arg := range 3 {
		for _, cm := range sixCms {
			for _, w := range widesOf(halfEdges) {
				condOkIs(t, impl.Cond{Arg: arg, Mask: w, Cm: cm}, true)
				condOkIs(t, impl.Cond{Arg: arg, Cm: cm, Val: w}, true)
			}
		}
	}
	for _, c := range wrongConds() {
		condOkIs(t, c, false)
	}
	for _, w := range wrongWides() {
		condOkIs(t, impl.Cond{Mask: w, Cm: 1}, false)
		condOkIs(t, impl.Cond{Cm: 6, Val: w}, false)
	}
}

func TestCondOkAtItsLimits(t *testing.T) {
	for _, k := range []struct {
		c    impl.Cond
		want bool
	}{
		{impl.Cond{Arg: -1, Cm: 1}, false}, {impl.Cond{Arg: 0, Cm: 1}, true}, {impl.Cond{Arg: impl.ArgCount - 1, Cm: 1}, true}, {impl.Cond{Arg: impl.ArgCount, Cm: 1}, false},
		{impl.Cond{Cm: 0}, false}, {impl.Cond{Cm: impl.CmEq}, true}, {impl.Cond{Cm: impl.CmLeast}, true}, {impl.Cond{Cm: impl.CmLeast + 1}, false}, {impl.Cond{Cm: math.MinInt}, false}, {impl.Cond{Cm: math.MaxInt}, false},
		{impl.Cond{Mask: impl.Wide{Hi: -1}, Cm: 1}, false}, {impl.Cond{Mask: impl.Wide{Hi: impl.MaxHalf}, Cm: 1}, true}, {impl.Cond{Mask: impl.Wide{Hi: impl.MaxHalf + 1}, Cm: 1}, false},
		{impl.Cond{Mask: impl.Wide{Lo: -1}, Cm: 1}, false}, {impl.Cond{Mask: impl.Wide{Lo: impl.MaxHalf}, Cm: 1}, true}, {impl.Cond{Mask: impl.Wide{Lo: impl.MaxHalf + 1}, Cm: 1}, false},
		{impl.Cond{Cm: 1, Val: impl.Wide{Hi: -1}}, false}, {impl.Cond{Cm: 1, Val: impl.Wide{Hi: impl.MaxHalf}}, true}, {impl.Cond{Cm: 1, Val: impl.Wide{Hi: impl.MaxHalf + 1}}, false},
		{impl.Cond{Cm: 1, Val: impl.Wide{Lo: -1}}, false}, {impl.Cond{Cm: 1, Val: impl.Wide{Lo: impl.MaxHalf}}, true}, {impl.Cond{Cm: 1, Val: impl.Wide{Lo: impl.MaxHalf + 1}}, false},
	} {
		condOkIs(t, k.c, k.want)
	}
}

func TestPolicyOkWithoutRules(t *testing.T) {
	policyOkIs(t, impl.Policy{}, true)
	policyOkIs(t, impl.Policy{Rules: []impl.Rule{}}, true)
	policyOkIs(t, impl.Policy{Rules: []impl.Rule{{}}}, true)
	policyOkIs(t, impl.Policy{Rules: []impl.Rule{{Nums: []int{}, Conds: []impl.Cond{}}}}, true)
	for _, arch := range halfEdges {
		policyOkIs(t, impl.Policy{Arch: arch}, true)
	}
	for _, arch := range noHalves {
		policyOkIs(t, impl.Policy{Arch: arch}, false)
	}
}

// Of the policy, and of the first, a middle and the last one of its rules alike.
func TestPolicyOkOfActionAndData(t *testing.T) {
	okIs := func(action, data int, want bool) {
		t.Helper()
		policyOkIs(t, impl.Policy{Arch: 62, Action: action, Data: data}, want)
		for _, place := range []int{0, 4, 9} {
			rules := slices.Repeat([]impl.Rule{anyRule(5, 0)}, 10)
			rules[place] = anyRule(action, data)
			policyOkIs(t, policyOf(rules...), want)
			policyOkIs(t, policyOf(rules[:place+1]...), want)
		}
	}
	for _, action := range actionNumbers {
		for _, data := range dataEdges {
			okIs(action, data, true)
		}
		for _, data := range noData {
			okIs(action, data, false)
		}
	}
	for _, action := range noActions {
		for _, data := range []int{0, 65535, -1, 65536} {
			okIs(action, data, false)
		}
	}
}

func TestPolicyOkOfHowManyRules(t *testing.T) {
	for count := range 15 {
		policyOkIs(t, policyOf(slices.Repeat([]impl.Rule{numRule(2, 3, 1)}, count)...), count <= impl.MaxRules)
		policyOkIs(t, policyOf(make([]impl.Rule, count)...), count <= 10)
	}
	for _, count := range []int{20, 255, 256, 257, 266, 65536, 65546} {
		policyOkIs(t, policyOf(make([]impl.Rule, count)...), false)
	}
}

func TestPolicyOkOfNums(t *testing.T) {
	known := []struct {
		nums []int
		want bool
	}{
		{nil, true}, {[]int{}, true}, {[]int{0}, true}, {[]int{impl.MaxHalf}, true}, {[]int{0, 1}, true}, {[]int{0, impl.MaxHalf}, true}, {[]int{1, 2, 3}, true}, {[]int{0, 1, 2, 3}, true}, {[]int{7, 8, 2147483648, impl.MaxHalf}, true},
		{[]int{0, 1, 2, 3, 4}, false}, {[]int{1, 2, 3, 4, 5, 6}, false}, {[]int{0, 0, 0, 0, 0}, false},
		{[]int{0, 0}, false}, {[]int{1, 1}, false}, {[]int{1, 1, 2}, false}, {[]int{1, 2, 2}, false}, {[]int{1, 2, 3, 3}, false}, {[]int{1, 2, 2, 3}, false}, {[]int{1, 2, 1}, false}, {[]int{impl.MaxHalf, impl.MaxHalf}, false},
		{[]int{1, 0}, false}, {[]int{4, 3, 2, 1}, false}, {[]int{1, 3, 2}, false}, {[]int{2, 1, 3}, false}, {[]int{1, 2, 4, 3}, false}, {[]int{impl.MaxHalf, 0}, false},
		{[]int{-1}, false}, {[]int{-1, 0}, false}, {[]int{-2, -1}, false}, {[]int{impl.MaxHalf + 1}, false}, {[]int{0, impl.MaxHalf + 1}, false}, {[]int{1, 2, 3, impl.MaxHalf + 1}, false}, {[]int{impl.MaxHalf, impl.MaxHalf + 1}, false}, {[]int{math.MinInt, 0, 1, 2}, false}, {[]int{0, math.MaxInt}, false},
	}
	for _, k := range known {
		for place := range 10 {
			rules := slices.Repeat([]impl.Rule{numRule(5, 0, 1, 2)}, 10)
			rules[place].Nums = k.nums
			policyOkIs(t, policyOf(rules...), k.want)
			policyOkIs(t, policyOf(rules[:place+1]...), k.want)
		}
	}
	for _, n := range noHalves {
		policyOkIs(t, policyOf(numRule(5, 0, n)), false)
		policyOkIs(t, policyOf(numRule(5, 0, min(n, 1), max(n, 1))), false)
	}
	// Rules may share Nums: it is within one that they ascend.
	policyOkIs(t, policyOf(numRule(5, 0, 3), numRule(4, 0, 3), numRule(4, 0, 1, 2)), true)
}

func TestPolicyOkOfConds(t *testing.T) {
	for count := range 8 {
		for place := range 10 {
			rules := make([]impl.Rule, 10)
			rules[place] = condRule(4, 0, slices.Repeat([]impl.Cond{plainCond()}, count)...)
			policyOkIs(t, policyOf(rules...), count <= 3)
		}
	}
	for _, wrong := range wrongConds() {
		for size := 1; size <= 3; size++ {
			for at := range size {
				conds := slices.Repeat([]impl.Cond{plainCond()}, size)
				conds[at] = wrong
				for _, place := range []int{0, 4, 9} {
					rules := slices.Repeat([]impl.Rule{condRule(4, 0, plainCond())}, 10)
					rules[place].Conds = conds
					policyOkIs(t, policyOf(rules...), false)
					policyOkIs(t, policyOf(rules[:place+1]...), false)
				}
			}
		}
	}
	most := impl.Rule{Nums: []int{0, 1, 2, impl.MaxHalf}, Conds: []impl.Cond{anyCond(0), anyCond(1), anyCond(2)}, Action: 5, Data: 65535}
	policyOkIs(t, impl.Policy{Arch: impl.MaxHalf, Action: 5, Data: 65535, Rules: slices.Repeat([]impl.Rule{most}, 10)}, true)
}

func TestPolicyOkOfWhatIsWrong(t *testing.T) {
	for _, p := range wrongPolicies() {
		policyOkIs(t, p, false)
	}
}

// What stands in the spare room behind a list is none of the policy's.
func TestPolicyOkLooksAtNoSpareRoom(t *testing.T) {
	nums := []int{1, 2, 3, 4, 4, -1}
	conds := []impl.Cond{plainCond(), plainCond(), plainCond(), {}, {}}
	for size := range len(nums) + 1 {
		policyOkIs(t, policyOf(numRule(5, 0, nums[:size]...)), size <= 4)
	}
	for size := range len(conds) + 1 {
		policyOkIs(t, policyOf(condRule(5, 0, conds[:size]...)), size <= 3)
	}
	rules := append(make([]impl.Rule, 10), anyRule(-1, -1), anyRule(6, 65536))
	for size := range len(rules) + 1 {
		policyOkIs(t, policyOf(rules[:size]...), size <= 10)
	}
	ruleHoldsIs(t, numRule(5, 0, nums[:2]...), ofNum(3), false)
	ruleHoldsIs(t, condRule(5, 0, conds[:3]...), plainCall(), true)
}

func TestRuleHoldsByNums(t *testing.T) {
	for _, num := range halfEdges {
		ruleHoldsIs(t, impl.Rule{}, ofNum(num), true)
		ruleHoldsIs(t, impl.Rule{Nums: []int{}}, ofNum(num), true)
		ruleHoldsIs(t, condRule(4, 0, plainCond()), ofNum(num), true)
		ruleHoldsIs(t, condRule(4, 0, failingCond()), ofNum(num), false)
		for _, other := range halfEdges {
			ruleHoldsIs(t, numRule(4, 0, other), ofNum(num), num == other)
		}
	}
	nums := []int{3, 5, 7, 4294967295}
	for _, num := range []int{0, 1, 2, 3, 4, 5, 6, 7, 8, 4294967294, 4294967295} {
		for size := 1; size <= 4; size++ {
			ruleHoldsIs(t, numRule(4, 0, nums[:size]...), ofNum(num), slices.Contains(nums[:size], num))
		}
	}
	// Numbers beside them do not count: neither Arch nor an action nor a place.
	ruleHoldsIs(t, numRule(4, 1, 62), ofNum(1), false)
	ruleHoldsIs(t, numRule(4, 1, 0), ofNum(1), false)
}

func TestRuleHoldsByConds(t *testing.T) {
	for _, nums := range [][]int{nil, {1}, {0, 1}, {2}} {
		for size := range 4 {
			for bits := range 1 << size {
				rule := impl.Rule{Nums: nums}
				for at := range size {
					if bits>>at&1 == 1 {
						rule.Conds = append(rule.Conds, failingCond())
					} else {
						rule.Conds = append(rule.Conds, anyCond(at))
					}
				}
				ruleHoldsIs(t, rule, plainCall(), bits == 0 && !slices.Equal(nums, []int{2}))
			}
		}
	}
	// Each looks at an Arg of its own.
	conds := []impl.Cond{plainCond(), {Arg: 1, Mask: allBits, Cm: impl.CmMore, Val: impl.Wide{Hi: 21, Lo: 19}}, {Arg: 2, Mask: impl.Wide{Lo: 15}, Cm: impl.CmLess, Val: impl.Wide{Lo: 15}}}
	ruleHoldsIs(t, condRule(4, 0, conds...), plainCall(), true)
	for at := range 3 {
		ruleHoldsIs(t, condRule(4, 0, conds...), withArg(at, impl.Wide{Lo: 15}), false)
	}
}

// The sentence of RuleHolds asks for Nums and Conds alone: whether it is right is no part of it, but where a Cond asks.
func TestRuleHoldsOfRulesThatAreNotRight(t *testing.T) {
	for _, action := range noActions {
		ruleHoldsIs(t, anyRule(action, 0), plainCall(), true)
		ruleHoldsIs(t, numRule(action, -1, 1), plainCall(), true)
		ruleHoldsIs(t, numRule(action, -1, 2), plainCall(), false)
		ruleHoldsIs(t, condRule(action, 65536, plainCond()), plainCall(), true)
		ruleHoldsIs(t, condRule(action, 65536, failingCond()), plainCall(), false)
	}
	for _, nums := range [][]int{{1, 2, 3, 4, 5}, {5, 4, 3, 2, 1}, {1, 1}, {2, 1, 2}, {-1, 1}, {0, 2, 3, 4, 5, 1}, {4294967296, 1}} {
		ruleHoldsIs(t, numRule(4, 0, nums...), ofNum(1), true)
		ruleHoldsIs(t, numRule(4, 0, nums...), ofNum(9), false)
		ruleHoldsIs(t, impl.Rule{Nums: nums, Conds: []impl.Cond{plainCond()}}, ofNum(1), true)
		ruleHoldsIs(t, impl.Rule{Nums: nums, Conds: []impl.Cond{failingCond()}}, ofNum(1), false)
	}
	ruleHoldsIs(t, numRule(4, 0, make([]int, 100000)...), ofNum(0), true)
	for count := range 8 {
		conds := slices.Repeat([]impl.Cond{plainCond()}, count)
		ruleHoldsIs(t, condRule(4, 0, conds...), plainCall(), true)
		ruleHoldsIs(t, condRule(4, 0, append(conds, failingCond())...), plainCall(), false)
	}
	for _, c := range wrongConds() {
		ruleHoldsIs(t, condRule(4, 0, c), plainCall(), false)
		ruleHoldsIs(t, condRule(4, 0, plainCond(), c), plainCall(), false)
		ruleHoldsIs(t, condRule(4, 0, c, plainCond()), plainCall(), false)
	}
}

// Without Conds the Num alone is looked at, also one that is no half; with any, none of them holds.
func TestRuleHoldsOfCallsThatAreNotRight(t *testing.T) {
	for _, x := range wrongCalls() {
		ruleHoldsIs(t, anyRule(4, 0), x, true)
		ruleHoldsIs(t, numRule(4, 0, x.Num), x, true)
		ruleHoldsIs(t, numRule(4, 0, 5, x.Num), x, true)
		ruleHoldsIs(t, numRule(4, 0, x.Num^1), x, false)
		for arg := range 3 {
			ruleHoldsIs(t, condRule(4, 0, anyCond(arg)), x, false)
			ruleHoldsIs(t, impl.Rule{Nums: []int{x.Num}, Conds: []impl.Cond{anyCond(arg)}}, x, false)
		}
	}
}

// withRoom is a policy and a call whose lists all have something in the spare room behind them.
func withRoom(size int) (impl.Policy, impl.Call) {
	nums := []int{1, 2, 3, 4, 77, 78}
	conds := []impl.Cond{anyCond(0), plainCond(), anyCond(2), failingCond(), {Arg: 77}}
	rules := make([]impl.Rule, 13)
	for i := range rules {
		rules[i] = impl.Rule{Nums: slices.Clone(nums)[:size%5], Conds: slices.Clone(conds)[:size%4], Action: i % 6, Data: i}
	}
	args := []impl.Wide{{Hi: 11, Lo: 10}, {Hi: 21, Lo: 20}, {Hi: 31, Lo: 30}, {Hi: 77, Lo: 78}, {Hi: -1, Lo: -1}}
	return policyOf(rules[:size]...), impl.Call{Arch: 62, Num: 1 + size%3, Args: args[:max(3, size%6)]}
}

// allOf is a policy with all that stands in its lists and behind them.
func allOf(p impl.Policy, x impl.Call) any {
	rules := slices.Clone(p.Rules[:cap(p.Rules)])
	for i, r := range rules {
		rules[i].Nums = slices.Clone(r.Nums[:cap(r.Nums)])
		rules[i].Conds = slices.Clone(r.Conds[:cap(r.Conds)])
	}
	return []any{p.Arch, p.Action, p.Data, rules, x.Arch, x.Num, slices.Clone(x.Args[:cap(x.Args)])}
}

func TestPoliciesAreNotWrittenInto(t *testing.T) {
	for size := range 13 {
		p, x := withRoom(size)
		before := allOf(p, x)
		impl.PolicyOk(p)
		impl.Decide(p, x)
		for _, r := range p.Rules {
			impl.RuleHolds(r, x)
			for _, c := range r.Conds {
				impl.CondOk(c)
				impl.CondHolds(c, x)
			}
		}
		if !reflect.DeepEqual(allOf(p, x), before) {
			t.Errorf("with %d rules something was written into an argument or behind it", size)
		}
	}
}

// Whatever comes in, a call answers, and the same each time: Args of any length, an Arg beyond them, lists that are nil.
func TestPoliciesAnswerAtEveryArgument(t *testing.T) {
	numbers := slices.Concat(noArgs, noCms, []int{1, 2, 5, 6, 62})
	for count := range 7 {
		x := impl.Call{Arch: 62, Num: 1, Args: slices.Repeat([]impl.Wide{allBits}, count)}
		for _, arg := range numbers {
			for _, cm := range numbers {
				c := impl.Cond{Arg: arg, Mask: allBits, Cm: cm, Val: allBits}
				right := condIsRight(c)
				condOkIs(t, c, right)
				want := right && count == 3 && (cm == 1 || cm == 4 || cm == 6)
				condHoldsIs(t, c, x, want)
				condHoldsIs(t, c, x, want)
				ruleHoldsIs(t, condRule(4, 1, c), x, want)
				decided := 0
				if right && count == 3 {
					decided = 65536*5 + 9
				}
				if want {
					decided = 65536*4 + 1
				}
				decideIs(t, policyOf(condRule(4, 1, c)), x, decided)
				decideIs(t, policyOf(condRule(4, 1, c)), x, decided)
			}
		}
	}
	decideIs(t, impl.Policy{}, impl.Call{}, 0)
	decideIs(t, impl.Policy{Action: 5}, impl.Call{}, 0)
	decideIs(t, impl.Policy{Action: 5}, impl.Call{Args: make([]impl.Wide, 3)}, 65536*5)
	condHoldsIs(t, impl.Cond{}, impl.Call{}, false)
	ruleHoldsIs(t, impl.Rule{}, impl.Call{}, true)
}
