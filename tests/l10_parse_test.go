package tests

import (
	"fmt"
	"math"
	"math/rand/v2"
	"reflect"
	"regexp"
	"slices"
	"strconv"
	"strings"
	"testing"

	"loop.example/g00397/impl"
)

// Promise 10: Policies come back from their texts.

// sixActions and sixMarks are the document's, each at its number.
var (
	sixActions = []string{"kill", "trap", "err", "trace", "log", "allow"}
	sixMarks   = []string{1: "==", 2: "!=", 3: "<", 4: "<=", 5: ">", 6: ">="}
)

// The sentences of the chapter, over signs with one blank between.
const (
	wideWords   = `\d+(?: : \d+)?`
	actionWords = `(?:kill|trap|err|trace|log|allow)(?: \d+)?`
	callWords   = `(?:\d+|read|write|open|close|stat|mmap|exec|fork|kill|send|recv|exit)`
	condWords   = `arg \d+(?: & ` + wideWords + `)? (?:==|!=|<=|>=|<|>) ` + wideWords
	ruleWords   = `on (?:any|` + callWords + `(?: , ` + callWords + `)*)(?: if ` + condWords + `(?: and ` + condWords + `)*)? do ` + actionWords + ` ;`
)

var (
	policyShape = regexp.MustCompile(`^arch (\d+) ; default (` + actionWords + `) ;((?: ` + ruleWords + `)*)$`)
	ruleShape   = regexp.MustCompile(`on (.*?)(?: if (.*?))? do (.*?) ;`)
	condShape   = regexp.MustCompile(`^arg (\d+)(?: & (.*?))? (==|!=|<=|>=|<|>) (.*)$`)
)

func halfSaid(text string) int {
	n, err := strconv.ParseUint(text, 10, 32)
	if err != nil {
		panic(err)
	}
	return int(n)
}

func wideSaid(text string) impl.Wide {
	hi, lo, two := strings.Cut(text, " : ")
	if !two {
		return impl.Wide{Lo: halfSaid(hi)}
	}
	return impl.Wide{Hi: halfSaid(hi), Lo: halfSaid(lo)}
}

func actionSaid(text string) (int, int) {
	name, data, more := strings.Cut(text, " ")
	if !more {
		return slices.Index(sixActions, name), 0
	}
	return slices.Index(sixActions, name), halfSaid(data)
}

func condSaid(text string) impl.Cond {
	m := condShape.FindStringSubmatch(text)
	c := impl.Cond{Arg: halfSaid(m[1]), Mask: allBits, Cm: slices.Index(sixMarks, m[3]), Val: wideSaid(m[4])}
	if m[2] != "" {
		c.Mask = wideSaid(m[2])
	}
	return c
}

func ruleSaid(nums, conds, action string) impl.Rule {
	var r impl.Rule
	for _, word := range strings.Split(nums, " , ") {
		if place := slices.Index(twelveNames, word); place >= 0 {
			r.Nums = append(r.Nums, place)
		} else if word != "any" {
			r.Nums = append(r.Nums, halfSaid(word))
		}
	}
	slices.Sort(r.Nums)
	if conds != "" {
		for _, text := range strings.Split(conds, " and ") {
			r.Conds = append(r.Conds, condSaid(text))
		}
	}
	r.Action, r.Data = actionSaid(action)
	return r
}

// policyIsRight is chapter 9's rule.
func policyIsRight(p impl.Policy) bool {
	none := func(n, limit int) bool { return n < 0 || n >= limit }
	if none(p.Arch, 4294967296) || none(p.Action, 6) || none(p.Data, 65536) || len(p.Rules) > 10 {
		return false
	}
	for _, r := range p.Rules {
		if none(r.Action, 6) || none(r.Data, 65536) || len(r.Nums) > 4 || len(r.Conds) > 3 {
			return false
		}
		for i, num := range r.Nums {
			if none(num, 4294967296) || i > 0 && r.Nums[i-1] >= num {
				return false
			}
		}
		if slices.ContainsFunc(r.Conds, func(c impl.Cond) bool { return !condIsRight(c) }) {
			return false
		}
	}
	return true
}

// policyByRule reads a text by the chapter's sentences, with the library's means.
func policyByRule(text string) (impl.Policy, bool) {
	signs, ok := signsByRule(text)
	if !ok {
		return impl.Policy{}, false
	}
	var words []string
	for _, s := range signs {
		if s.Kind == 2 {
			words = append(words, strconv.Itoa(s.Num))
		} else {
			words = append(words, s.Text)
		}
	}
	m := policyShape.FindStringSubmatch(strings.Join(words, " "))
	if m == nil {
		return impl.Policy{}, false
	}
	p := impl.Policy{Arch: halfSaid(m[1])}
	p.Action, p.Data = actionSaid(m[2])
	for _, r := range ruleShape.FindAllStringSubmatch(m[3], -1) {
		p.Rules = append(p.Rules, ruleSaid(r[1], r[2], r[3]))
	}
	if !policyIsRight(p) {
		return impl.Policy{}, false
	}
	return p, true
}

// shownByRule is the text of a right policy, however long.
func shownByRule(p impl.Policy) string {
	text := fmt.Sprintf("arch %d ; default %s %d ;", p.Arch, sixActions[p.Action], p.Data)
	for _, r := range p.Rules {
		words := []string{"any"}
		if len(r.Nums) > 0 {
			words = nil
		}
		for _, num := range r.Nums {
			words = append(words, strconv.Itoa(num))
		}
		text += " on " + strings.Join(words, " , ")
		for i, c := range r.Conds {
			text += []string{" and ", " if "}[max(0, 1-i)]
			text += fmt.Sprintf("arg %d & %d : %d %s %d : %d", c.Arg, c.Mask.Hi, c.Mask.Lo, sixMarks[c.Cm], c.Val.Hi, c.Val.Lo)
		}
		text += fmt.Sprintf(" do %s %d ;", sixActions[r.Action], r.Data)
	}
	return text
}

// plainly is all that a policy has: lists that are nil and empty ones alike, and nothing else.
func plainly(p impl.Policy) string { return fmt.Sprint(p) }

func readsAs(t *testing.T, text string, want impl.Policy) {
	t.Helper()
	if got, ok := impl.ReadPolicy(text); !ok || plainly(got) != plainly(want) {
		t.Errorf("ReadPolicy(%q) = %v, %v; want %v, true", text[:min(len(text), 400)], got, ok, want)
	}
}

func refusesPolicy(t *testing.T, text string) {
	t.Helper()
	if got, ok := impl.ReadPolicy(text); ok || plainly(got) != plainly(impl.Policy{}) {
		t.Errorf("ReadPolicy(%q) = %v, %v; want nothing, false", text[:min(len(text), 400)], got, ok)
	}
}

func readsByTheRule(t *testing.T, text string) bool {
	t.Helper()
	want, ok := policyByRule(text)
	if ok {
		readsAs(t, text, want)
	} else {
		refusesPolicy(t, text)
	}
	return ok
}

func showsAs(t *testing.T, p impl.Policy, want string) {
	t.Helper()
	if got, ok := impl.ShowPolicy(p); !ok || got != want {
		t.Errorf("ShowPolicy(%v) = %q, %v; want %q, true", p, got, ok, want)
	}
}

func refusesToShow(t *testing.T, p impl.Policy) {
	t.Helper()
	if got, ok := impl.ShowPolicy(p); ok || got != "" {
		t.Errorf("ShowPolicy(%v) = %q, %v; want nothing, false", p, got, ok)
	}
}

// sameIs asks in both orders.
func sameIs(t *testing.T, a, b impl.Policy, want bool) {
	t.Helper()
	if impl.SamePolicy(a, b) != want || impl.SamePolicy(b, a) != want {
		t.Errorf("SamePolicy of %v and %v is not %v, in one order or the other", a, b, want)
	}
}

// policyComesBack holds the promise of a right policy, and tells whether it has a text at all.
func policyComesBack(t *testing.T, p impl.Policy) bool {
	t.Helper()
	text := shownByRule(p)
	if len(text) > 1200 {
		refusesToShow(t, p)
		return false
	}
	showsAs(t, p, text)
	readsAs(t, text, p)
	back, _ := impl.ReadPolicy(text)
	sameIs(t, p, back, true)
	showsAs(t, back, text)
	return true
}

// inPolicy is a text whose one rule this is, and inCond one whose one condition this is.
func inPolicy(rule string) string { return "arch 62; default allow; " + rule }

func inCond(cond string) string { return inPolicy("on 1 if " + cond + " do log;") }

// ofRules and ofConds are what such texts tell.
func ofRules(rules ...impl.Rule) impl.Policy {
	return impl.Policy{Arch: 62, Action: 5, Rules: rules}
}

func ofConds(conds ...impl.Cond) impl.Policy {
	return ofRules(impl.Rule{Nums: []int{1}, Conds: conds, Action: 4})
}

// allWords is a text that has each kind of sign that a policy has.
const allWords = "arch 62 ; default err 13 ; on any do kill ; on read , 7 , write if arg 0 & 1 : 255 <= 5 and arg 1 == 4294967295 : 0 and arg 2 & 3 != 9 do trace 65535 ; on 4294967295 if arg 2 >= 0 do allow ; "

// someTexts are right policies' texts.
func someTexts() []string {
	return []string{
		allWords,
		"arch 0 ; default kill ;",
		"arch 4294967295 ; default allow 65535 ; on kill do kill 1 ;",
		"arch 62 ; default trap 1 ; on any if arg 0 < 1 do log ; on any if arg 1 > 2 : 3 do err 2 ;",
		"arch 1 ; default log ; on open , close , stat , mmap do allow ; on exec , fork do trap 0 ; on send , recv , exit do err 104 ;",
	}
}

// drawnHalf has any number of figures.
func drawnHalf(r *rand.Rand) int {
	if r.IntN(3) == 0 {
		return []int{0, 4294967295}[r.IntN(2)]
	}
	return int(r.Uint32() >> r.IntN(32))
}

// drawnText is a right policy's text in one of the many ways in which it can be told.
func drawnText(r *rand.Rand, p impl.Policy) string {
	spaces := []string{" ", "  ", "\n", " \n ", "\n\n"}
	figuresOf := func(n int) string {
		text := strconv.Itoa(n)
		return strings.Repeat("0", r.IntN(2)*r.IntN(11-len(text))) + text
	}
	wideOf := func(w impl.Wide) []string {
		if w.Hi == 0 && r.IntN(2) == 0 {
			return []string{figuresOf(w.Lo)}
		}
		return []string{figuresOf(w.Hi), ":", figuresOf(w.Lo)}
	}
	outcomeOf := func(action, data int) []string {
		if data == 0 && r.IntN(2) == 0 {
			return []string{sixActions[action], ";"}
		}
		return []string{sixActions[action], figuresOf(data), ";"}
	}
	words := append([]string{"arch", figuresOf(p.Arch), ";", "default"}, outcomeOf(p.Action, p.Data)...)
	for _, rule := range p.Rules {
		words = append(words, "on")
		if len(rule.Nums) == 0 {
			words = append(words, "any")
		}
		for i, place := range r.Perm(len(rule.Nums)) {
			if i > 0 {
				words = append(words, ",")
			}
			num := rule.Nums[place]
			if num < 12 && r.IntN(2) == 0 {
				words = append(words, twelveNames[num])
			} else {
				words = append(words, figuresOf(num))
			}
		}
		for i, c := range rule.Conds {
			words = append(words, []string{"and", "if"}[max(0, 1-i)], "arg", figuresOf(c.Arg))
			if c.Mask != allBits || r.IntN(2) == 0 {
				words = append(append(words, "&"), wideOf(c.Mask)...)
			}
			words = append(append(words, sixMarks[c.Cm]), wideOf(c.Val)...)
		}
		words = append(append(words, "do"), outcomeOf(rule.Action, rule.Data)...)
	}
	text := ""
	for i, word := range words {
		// A space may go where a mark stands: of all that may stand beside each other no two are one mark.
		marked := i == 0 || !isFigureOrLetter(word[0]) || !isFigureOrLetter(words[i-1][0])
		if !marked || r.IntN(2) == 0 {
			text += spaces[r.IntN(len(spaces))]
		}
		text += word
	}
	return text + strings.Repeat("\n", r.IntN(2))
}

func isFigureOrLetter(b byte) bool { return b >= '0' && b <= '9' || b >= 'a' && b <= 'z' }

// shortPolicy is drawn so that most of them have a text.
func shortPolicy(r *rand.Rand, count int) impl.Policy {
	p := impl.Policy{Arch: drawnHalf(r), Action: r.IntN(6), Data: dataEdges[r.IntN(len(dataEdges))]}
	for range count {
		rule := impl.Rule{Action: r.IntN(6), Data: dataEdges[r.IntN(len(dataEdges))]}
		for range r.IntN(5) {
			num := r.IntN(14)
			if r.IntN(3) == 0 {
				num = drawnHalf(r)
			}
			rule.Nums = append(rule.Nums, num)
		}
		slices.Sort(rule.Nums)
		rule.Nums = slices.Compact(rule.Nums)
		conds := r.IntN(4)
		if count > 5 {
			conds = r.IntN(2)
		}
		for range conds {
			c := drawnCond(r)
			if r.IntN(2) == 0 {
				c.Mask = impl.Wide{Hi: drawnHalf(r), Lo: drawnHalf(r)}
			}
			rule.Conds = append(rule.Conds, c)
		}
		p.Rules = append(p.Rules, rule)
	}
	return p
}

// ofSize is a right policy whose text has just so many bytes: each number grows by a figure at a time.
func ofSize(t *testing.T, size int) impl.Policy {
	t.Helper()
	p := impl.Policy{}
	for range 10 {
		p.Rules = append(p.Rules, impl.Rule{Nums: []int{1, 2, 3, 4}, Conds: []impl.Cond{{Cm: 3}, {Cm: 5}}})
	}
	var halves []*int
	for i := range p.Rules {
		for at := range p.Rules[i].Conds {
			c := &p.Rules[i].Conds[at]
			halves = append(halves, &c.Mask.Hi, &c.Mask.Lo, &c.Val.Hi, &c.Val.Lo)
		}
	}
	for left := size - len(shownByRule(p)); left > 0; left-- {
		at := 0
		for *halves[at] > 1000000000/10 {
			at++
		}
		*halves[at] = max(10, 10**halves[at])
	}
	if got := len(shownByRule(p)); got != size || !policyIsRight(p) {
		t.Fatalf("a policy of %d bytes has %d: %v", size, got, p)
	}
	return p
}

func TestDrawnPoliciesComeBack(t *testing.T) {
	r := rand.New(rand.NewPCG(10, 1))
	told := map[int]int{}
	for i := range 12000 {
		p := shortPolicy(r, i%11)
		if policyComesBack(t, p) {
			told[len(p.Rules)]++
		}
	}
	for count := range 11 {
		if told[count] < 200 {
			t.Errorf("of %d rules %d policies come back, too few to tell much", count, told[count])
		}
	}
}

// Each action, data, count of Nums and of Conds, and half at its edges.
func TestPoliciesComeBackAtTheirEdges(t *testing.T) {
	nums := []int{0, 1, 11, 12, 4294967295}
	conds := []impl.Cond{{Arg: 0, Cm: 1}, {Arg: 1, Mask: allBits, Cm: 4, Val: allBits}, {Arg: 2, Mask: impl.Wide{Hi: 4294967295}, Cm: 6, Val: impl.Wide{Lo: 4294967295}}}
	for action := range 6 {
		for _, data := range []int{0, 1, 65535} {
			policyComesBack(t, impl.Policy{Action: action, Data: data})
			policyComesBack(t, impl.Policy{Arch: 4294967295, Action: action, Data: data})
			for size := range 5 {
				for count := range 4 {
					rule := impl.Rule{Nums: nums[:size], Conds: conds[:count], Action: action, Data: data}
					policyComesBack(t, ofRules(rule))
					policyComesBack(t, ofRules(impl.Rule{Nums: nums[5-size:]}, rule, impl.Rule{}))
				}
			}
		}
	}
	for arg := range 3 {
		for _, cm := range sixCms {
			for _, w := range widesOf([]int{0, 1, 9, 10, 4294967294, 4294967295}) {
				policyComesBack(t, ofConds(impl.Cond{Arg: arg, Mask: w, Cm: cm, Val: impl.Wide{Hi: w.Lo, Lo: w.Hi}}))
			}
		}
	}
	for count := range 11 {
		policyComesBack(t, ofRules(make([]impl.Rule, count)...))
		policyComesBack(t, ofRules(slices.Repeat([]impl.Rule{numRule(3, 7, 2, 5)}, count)...))
	}
	for _, half := range halfEdges {
		policyComesBack(t, impl.Policy{Arch: half})
		policyComesBack(t, ofRules(numRule(0, 0, half)))
	}
}

// A policy is read from every way in which its text can be told, and its own text is the same for all of them.
func TestDrawnTextsAreReadShownAndReadAgain(t *testing.T) {
	r := rand.New(rand.NewPCG(10, 2))
	read := 0
	for i := range 12000 {
		p := shortPolicy(r, i%11)
		text := drawnText(r, p)
		if len(text) > 1200 {
			refusesPolicy(t, text)
			continue
		}
		readsAs(t, text, p)
		if i%7 == 0 {
			readsByTheRule(t, text)
		}
		first, _ := impl.ReadPolicy(text)
		shown, ok := impl.ShowPolicy(first)
		if ok != (len(shownByRule(p)) <= 1200) {
			t.Errorf("ShowPolicy of what is read from %q is %v", text, ok)
		}
		if ok {
			readsAs(t, shown, p)
			second, _ := impl.ReadPolicy(shown)
			sameIs(t, first, second, true)
			read++
		}
	}
	if read < 5000 {
		t.Errorf("%d texts are read, shown and read again, too few to tell much", read)
	}
	for _, text := range someTexts() {
		p, ok := impl.ReadPolicy(text)
		if !ok || !readsByTheRule(t, text) {
			t.Errorf("ReadPolicy(%q) is false", text)
		}
		policyComesBack(t, p)
	}
}

func TestReadPolicyKnown(t *testing.T) {
	readsAs(t, "arch 62; default allow; on write if arg 0 > 5 do log;", ofConds(impl.Cond{Mask: allBits, Cm: 5, Val: impl.Wide{Lo: 5}}))
	readsAs(t, "arch 62;default allow;", impl.Policy{Arch: 62, Action: 5})
	readsAs(t, "arch 0 ; default kill 0 ;", impl.Policy{})
	readsAs(t, allWords, impl.Policy{Arch: 62, Action: 2, Data: 13, Rules: []impl.Rule{
		{},
		{Nums: []int{0, 1, 7}, Conds: []impl.Cond{{Mask: impl.Wide{Hi: 1, Lo: 255}, Cm: 4, Val: impl.Wide{Lo: 5}}, {Arg: 1, Mask: allBits, Cm: 1, Val: impl.Wide{Hi: 4294967295}}, {Arg: 2, Mask: impl.Wide{Lo: 3}, Cm: 2, Val: impl.Wide{Lo: 9}}}, Action: 3, Data: 65535},
		{Nums: []int{4294967295}, Conds: []impl.Cond{{Arg: 2, Mask: allBits, Cm: 6}}, Action: 5},
	}})
}

func TestReadPolicyOfActions(t *testing.T) {
	for action, name := range sixActions {
		for _, data := range []int{0, 1, 65535} {
			readsAs(t, fmt.Sprintf("arch 62; default %s %d;", name, data), impl.Policy{Arch: 62, Action: action, Data: data})
			readsAs(t, inPolicy(fmt.Sprintf("on any do %s %d;", name, data)), ofRules(anyRule(action, data)))
			readsAs(t, inPolicy(fmt.Sprintf("on 3 do %s %d; on any do trap;", name, data)), ofRules(numRule(action, data, 3), anyRule(1, 0)))
		}
		readsAs(t, "arch 62; default "+name+";", impl.Policy{Arch: 62, Action: action})
		readsAs(t, inPolicy("on any do "+name+";"), ofRules(anyRule(action, 0)))
		readsAs(t, "arch 62; default "+name+"00013;", impl.Policy{Arch: 62, Action: action, Data: 13})
		for _, data := range []string{"65536", "65537", "131072", "4294967295", "4294967296", "99999999999", "1 2", "1:2", "0:1", ":1", "read", "any", "log", "& 1", ", 1", "-1"} {
			refusesPolicy(t, "arch 62; default "+name+" "+data+";")
			refusesPolicy(t, inPolicy("on any do "+name+" "+data+";"))
		}
	}
	for _, name := range []string{"", "read", "any", "deny", "allows", "allo", "alow", "default", "0", "5", "5 0", "13 err", ":", ";", "kill kill", "log allow", "abcdefghijkl", "errno", "Kill"} {
		refusesPolicy(t, "arch 62; default "+name+";")
		refusesPolicy(t, inPolicy("on any do "+name+";"))
	}
}

func TestReadPolicyOfNums(t *testing.T) {
	for _, k := range []struct {
		text string
		nums []int
	}{
		{"any", nil}, {"read", []int{0}}, {"0", []int{0}}, {"exit", []int{11}}, {"11", []int{11}}, {"12", []int{12}}, {"4294967295", []int{4294967295}}, {"007", []int{7}},
		{"read,write", []int{0, 1}}, {"write,read", []int{0, 1}}, {"1,read", []int{0, 1}}, {"write,0", []int{0, 1}}, {"1,0", []int{0, 1}}, {"0,write", []int{0, 1}},
		{"3,2,1,0", []int{0, 1, 2, 3}}, {"close,open,write,read", []int{0, 1, 2, 3}}, {"exit,100,read,50", []int{0, 11, 50, 100}}, {"4294967295,0,exit,7", []int{0, 7, 11, 4294967295}}, {"10,9", []int{9, 10}}, {"2147483648,2147483647", []int{2147483647, 2147483648}},
		{"kill", []int{8}}, {"9,kill", []int{8, 9}},
	} {
		readsAs(t, inPolicy("on "+k.text+" do log;"), ofRules(numRule(4, 0, k.nums...)))
	}
	for place, name := range twelveNames {
		readsAs(t, inPolicy("on "+name+" do log;"), ofRules(numRule(4, 0, place)))
		readsAs(t, inPolicy("on 99,"+name+",98 do log;"), ofRules(numRule(4, 0, place, 98, 99)))
		readsAs(t, inPolicy("on "+name+" if arg 0 == 0 do log;"), ofRules(impl.Rule{Nums: []int{place}, Conds: []impl.Cond{{Mask: allBits, Cm: 1}}, Action: 4}))
	}
	// All orders of four.
	nums := []string{"7", "write", "4294967295", "stat"}
	for turn := range 256 {
		var words []string
		for _, at := range []int{turn & 3, turn >> 2 & 3, turn >> 4 & 3, turn >> 6} {
			words = append(words, nums[at])
		}
		text := inPolicy("on " + strings.Join(words, ",") + " do log;")
		slices.Sort(words)
		if len(slices.Compact(words)) == 4 {
			readsAs(t, text, ofRules(numRule(4, 0, 1, 4, 7, 4294967295)))
		} else {
			refusesPolicy(t, text)
		}
	}
	for _, nums := range []string{"", ",", "any any", "any,", ",any", "any,any", "any,1", "1,any", "any 1", "any read", "read write", "1 2", "read,", ",read", "read,,write", "1;2", "1:2", "1&2", "log", "allow", "trap", "trace", "err", "on", "if", "do", "arg", "and", "default", "arch", "reads", "rea", "readwrite", "abcdefghijkl", "4294967296", "-1", "1,4294967296", "read,log", "Read"} {
		refusesPolicy(t, inPolicy("on "+nums+" do log;"))
	}
	for _, nums := range []string{"0,1,2,3,4", "read,write,open,close,stat", "4,3,2,1,0", "1,2,3,4,5,6,7,8", "read,1,2,3,4294967295"} {
		refusesPolicy(t, inPolicy("on "+nums+" do log;"))
	}
}

// A number that is there twice in one rule is none, however it is told; in two rules it may stand.
func TestReadPolicyOfNumsThatAreThereTwice(t *testing.T) {
	ways := func(n int) []string {
		words := []string{strconv.Itoa(n), "0" + strconv.Itoa(n)}
		if n < 12 {
			words = append(words, twelveNames[n])
		}
		return words
	}
	for _, n := range []int{0, 1, 7, 8, 11, 12, 99, 429496729} {
		for _, one := range ways(n) {
			for _, other := range ways(n) {
				for _, nums := range []string{one + "," + other, one + "," + other + ",500", "500," + one + "," + other, one + ",500," + other, one + ",500,501," + other, "500," + one + ",501," + other, one + ",500," + other + ",501", one + ",2," + other, one + "," + other + "," + one, one + "," + other + "," + one + "," + other, "500," + one + ",500," + other} {
					refusesPolicy(t, inPolicy("on "+nums+" do log;"))
					refusesPolicy(t, inPolicy("on any do trap; on "+nums+" if arg 0 == 0 do log; on any do log;"))
				}
				readsAs(t, inPolicy("on "+one+" do log; on "+other+" do trap;"), ofRules(numRule(4, 0, n), numRule(1, 0, n)))
				readsAs(t, inPolicy("on "+one+" do log; on 500,"+other+" do trap;"), ofRules(numRule(4, 0, n), numRule(1, 0, min(n, 500), max(n, 500))))
			}
		}
	}
	refusesPolicy(t, inPolicy("on 4294967295,4294967295 do log;"))
	refusesPolicy(t, inPolicy("on 4294967295,0,4294967295 do log;"))
	// Twice, and so many that without it there would be four.
	refusesPolicy(t, inPolicy("on 1,2,3,4,1 do log;"))
	refusesPolicy(t, inPolicy("on 1,2,3,4,4 do log;"))
}

func TestReadPolicyOfConds(t *testing.T) {
	five, wide := impl.Wide{Lo: 5}, impl.Wide{Hi: 6, Lo: 7}
	for cm, mark := range sixMarks {
		if cm == 0 {
			continue
		}
		for arg := range 3 {
			c := impl.Cond{Arg: arg, Mask: allBits, Cm: cm, Val: five}
			readsAs(t, inCond(fmt.Sprintf("arg %d %s 5", arg, mark)), ofConds(c))
			readsAs(t, inCond(fmt.Sprintf("arg%d%s5", arg, mark)), ofConds(c))
			readsAs(t, inCond(fmt.Sprintf("arg %d %s 0:5", arg, mark)), ofConds(c))
			readsAs(t, inCond(fmt.Sprintf("arg %d & 4294967295:4294967295 %s 5", arg, mark)), ofConds(c))
			c.Mask, c.Val = impl.Wide{Lo: 4294967295}, wide
			readsAs(t, inCond(fmt.Sprintf("arg %d & 4294967295 %s 6:7", arg, mark)), ofConds(c))
			c.Mask = impl.Wide{Hi: 8, Lo: 9}
			readsAs(t, inCond(fmt.Sprintf("arg %d & 8:9 %s 6:7", arg, mark)), ofConds(c))
			readsAs(t, inCond(fmt.Sprintf("arg %d&8:9%s6:7", arg, mark)), ofConds(c))
			c.Mask, c.Val = impl.Wide{}, impl.Wide{}
			readsAs(t, inCond(fmt.Sprintf("arg %d & 0 %s 0", arg, mark)), ofConds(c))
			readsAs(t, inCond(fmt.Sprintf("arg %d & 0:0 %s 0:0", arg, mark)), ofConds(c))
			c.Mask, c.Val = allBits, allBits
			readsAs(t, inCond(fmt.Sprintf("arg %d %s 4294967295:4294967295", arg, mark)), ofConds(c))
		}
	}
	conds := []impl.Cond{{Arg: 2, Mask: allBits, Cm: 1, Val: five}, {Arg: 0, Mask: wide, Cm: 3, Val: five}, {Arg: 0, Mask: allBits, Cm: 6, Val: wide}}
	text := []string{"arg 2 == 5", "arg 0 & 6:7 < 5", "arg 0 >= 6:7"}
	readsAs(t, inPolicy("on 1 do log;"), ofConds())
	for size := 1; size <= 3; size++ {
		readsAs(t, inCond(strings.Join(text[:size], " and ")), ofConds(conds[:size]...))
		readsAs(t, inCond(strings.Join(text[3-size:], " and ")), ofConds(conds[3-size:]...))
		readsAs(t, inCond(strings.Join(slices.Repeat(text[:1], size), " and ")), ofConds(slices.Repeat(conds[:1], size)...))
	}
	for _, size := range []int{4, 5, 10, 60} {
		refusesPolicy(t, inCond(strings.Join(slices.Repeat([]string{"arg 0 == 5"}, size), " and ")))
	}
}

func TestReadPolicyOfNoConds(t *testing.T) {
	for _, cond := range []string{
		"", "and", "arg", "arg 0", "arg 0 5", "arg 0 ==", "arg == 5", "0 == 5", "== 5", "5", "arg 0 & == 5", "arg 0 & 1", "arg 0 & 1 5", "arg 0 & 1 ==", "arg & 1 == 5", "arg 0 1 == 5", "arg 0 & 1 & 1 == 5",
		"arg 3 == 5", "arg 4 == 5", "arg 4294967295 == 5", "arg 4294967296 == 5", "arg read == 5", "arg any == 5", "arg arg 0 == 5", "arg 0 0 == 5", "arg 0:0 == 5", "arg 0:1 == 5", "args 0 == 5", "read 0 == 5",
		"arg 0 = 5", "arg 0 ! 5", "arg 0 === 5", "arg 0 == == 5", "arg 0 != == 5", "arg 0 =< 5", "arg 0 <> 5", "arg 0 < = 5", "arg 0 & 5", "arg 0 : 5", "arg 0 , 5", "arg 0 ; 5", "arg 0 and 5", "arg 0 is 5",
		"arg 0 == 1:", "arg 0 == :1", "arg 0 == 1:2:3", "arg 0 == 1 2", "arg 0 == 1::2", "arg 0 == 1,2", "arg 0 == 1&2", "arg 0 == read", "arg 0 == any", "arg 0 == arg 1", "arg 0 == 4294967296", "arg 0 == 4294967296:0", "arg 0 == 0:4294967296", "arg 0 == 18446744073709551615",
		"arg 0 & 1: == 5", "arg 0 & :1 == 5", "arg 0 & 1:2:3 == 5", "arg 0 & read == 5", "arg 0 & 4294967296 == 5", "arg 0 & 4294967296:0 == 5", "arg 0 & 0:4294967296 == 5", "arg 0 == 5 & 1",
		"arg 0 == 5 and", "and arg 0 == 5", "arg 0 == 5 and and arg 1 == 5", "arg 0 == 5 arg 1 == 5", "arg 0 == 5 , arg 1 == 5", "arg 0 == 5 if arg 1 == 5", "if arg 0 == 5", "arg 0 == 5 and arg 1", "arg 0 == 5 or arg 1 == 5", "arg 0 == 5 ;", "arg 0 == 5 and 1",
	} {
		refusesPolicy(t, inCond(cond))
		refusesPolicy(t, inCond(cond+" and arg 1 == 0"))
		refusesPolicy(t, inCond("arg 1 == 0 and "+cond))
	}
	refusesPolicy(t, inPolicy("on 1 arg 0 == 5 do log;"))
	refusesPolicy(t, inPolicy("on 1 and arg 0 == 5 do log;"))
	refusesPolicy(t, inPolicy("on 1 do log if arg 0 == 5;"))
	refusesPolicy(t, inPolicy("if arg 0 == 5 do log;"))
}

func TestReadPolicyOfNoPolicies(t *testing.T) {
	for _, text := range []string{
		"", " ", "\n", ";", "arch", "arch 62", "arch 62;", "arch 62; default", "arch 62; default allow", "arch 62; default allow 1", "default allow;", "default allow; arch 62;", "arch 62 default allow;", "arch; default allow;", "62; default allow;", "arch 62 63; default allow;", "arch 0:62; default allow;", "arch read; default allow;", "arch any; default allow;", "arch 4294967296; default allow;", "arch -1; default allow;",
		"arch 62; arch 62; default allow;", "arch 62; default allow; default allow;", "arch 62;; default allow;", "arch 62; default allow;;", "; arch 62; default allow;", "arch 62, default allow;", "arch 62: default allow;", "arch 62; allow;", "arch 62; do allow;", "arch 62; on any do allow;", "arch 62; on any do log; default allow;", "on any do log; arch 62; default allow;",
		"Arch 62; default allow;", "ARCH 62; DEFAULT ALLOW;", "arch62default allow;", "arch 62; defaultallow;", "archive 62; default allow;", "arch 62.; default allow;", "arch 0x3e; default allow;", "\"arch 62; default allow;\"", "arch 62; default allow; # none", "arch 62;\tdefault allow;", "arch 62;\r\ndefault allow;", "arch 62; default allow;\x00", "\xef\xbb\xbfarch 62; default allow;",
	} {
		refusesPolicy(t, text)
		readsByTheRule(t, text)
	}
	for _, rest := range []string{"on", "on any", "on any do", "on any do log", "on any do log 1", "any do log;", "do log;", "log;", "1", "1;", "read", "read;", "on do log;", "on any log;", "on any; do log;", "on any if do log;", "on on any do log;", "on any do do log;", "on any do log, trap;", "on any do log; do trap;", "on any do log on any do trap;", "on any do log; on", "on any do log; any", "on any do log; ;", "on any do log; 1", "on any do log; default allow;", "arch 62; default allow;"} {
		refusesPolicy(t, inPolicy(rest))
		readsByTheRule(t, inPolicy(rest))
	}
}

func TestReadPolicyOfHowManyRules(t *testing.T) {
	for count := range 40 {
		text := inPolicy(strings.Repeat("on 1 do trap 2;", count))
		if count <= 10 {
			readsAs(t, text, ofRules(slices.Repeat([]impl.Rule{numRule(1, 2, 1)}, count)...))
		} else {
			refusesPolicy(t, text)
		}
	}
}

func TestReadPolicyOfSpace(t *testing.T) {
	want, ok := impl.ReadPolicy(allWords)
	if !ok {
		t.Fatal("allWords is no policy's text")
	}
	words := strings.Fields(allWords)
	for _, space := range []string{" ", "  ", "\n", "\n\n", " \n ", "\n \n  "} {
		readsAs(t, strings.Join(words, space), want)
		readsAs(t, space+strings.Join(words, space)+space, want)
	}
	// Where marks part them, nothing need stand between.
	bare := allWords
	for _, mark := range []string{":", ";", ",", "&", "==", "!=", "<=", ">="} {
		bare = strings.ReplaceAll(bare, " "+mark, mark)
		bare = strings.ReplaceAll(bare, mark+" ", mark)
	}
	readsAs(t, bare, want)
	readsAs(t, strings.ReplaceAll(bare, "arg ", "arg"), want)
	// Within a sign no space may stand, and a number may follow a name at once, or a name a number.
	readsAs(t, "arch62;default allow1;on1if arg0==1do log2;", impl.Policy{Arch: 62, Action: 5, Data: 1, Rules: []impl.Rule{{Nums: []int{1}, Conds: []impl.Cond{{Mask: allBits, Cm: 1, Val: impl.Wide{Lo: 1}}}, Action: 4, Data: 2}}})
	for _, text := range []string{"ar ch 62; default allow;", "arch 62; def\nault allow;", "arch 62; default al low;", "arch 6 2; default allow;", inCond("arg 0 = = 1"), inCond("arg 0 <\n= 1"), inPolicy("on re ad do log;"), inPolicy("onany do log;"), inPolicy("on any dolog;")} {
		refusesPolicy(t, text)
	}
}

func TestReadPolicyAtMaxPolicy(t *testing.T) {
	for _, text := range someTexts() {
		want, _ := impl.ReadPolicy(text)
		text = strings.TrimSpace(text)
		middle := strings.LastIndex(text, " ")
		for _, size := range []int{1199, 1200, 1201, 1202, 2400} {
			for _, space := range []string{" ", "\n"} {
				room := strings.Repeat(space, size-len(text))
				for _, padded := range []string{room + text, text + room, text[:middle] + room + text[middle:], "\n" + text + room[1:]} {
					if size <= 1200 {
						readsAs(t, padded, want)
					} else {
						refusesPolicy(t, padded)
					}
				}
			}
		}
	}
}

// otherWords are all that a sign of a text may be turned into.
func otherWords() []string {
	words := slices.Concat(twelveNames, sixActions, tenMarks, []string{"arch", "default", "on", "any", "if", "and", "do", "arg", "a", "abcdefghijkl", "0", "1", "2", "3", "7", "13", "65535", "65536", "4294967295"})
	return append(words, "4294967296", "abcdefghijklm", "=", "A", "\xff", "")
}

// Each sign left out, put twice, with another one in its place or ahead of it, or the next one ahead of it.
func TestReadPolicyOfTextsWithAnotherSign(t *testing.T) {
	read, refused := 0, 0
	try := func(words ...[]string) {
		t.Helper()
		if readsByTheRule(t, strings.Join(slices.Concat(words...), " ")) {
			read++
		} else {
			refused++
		}
	}
	for _, text := range someTexts() {
		words := strings.Fields(text)
		for at := range words {
			ahead, here, behind := words[:at], words[at:at+1], words[at+1:]
			try(ahead, behind)
			try(ahead, here, here, behind)
			try(ahead)
			try(behind)
			for _, other := range otherWords() {
				try(ahead, []string{other}, behind)
				try(ahead, []string{other}, here, behind)
			}
			for next := range behind {
				try(ahead, behind[next:next+1], behind[:next], here, behind[next+1:])
				try(ahead, behind[next:])
			}
		}
		for _, other := range otherWords() {
			try(words, []string{other})
		}
	}
	if read < 500 || refused < 5000 {
		t.Errorf("%d texts are read and %d refused, too few to tell much", read, refused)
	}
}

// A text is read just where its last rule is ended.
func TestReadPolicyOfTextsThatEndEarly(t *testing.T) {
	for _, text := range someTexts() {
		text = strings.TrimSpace(text)
		for size := range len(text) {
			begun := text[:size]
			ended := strings.HasSuffix(strings.TrimSpace(begun), ";") && strings.Count(begun, ";") >= 2
			if readsByTheRule(t, begun) != ended {
				t.Errorf("the beginning %q is read otherwise", begun)
			}
		}
	}
}

func TestShowPolicyKnown(t *testing.T) {
	all := "4294967295 : 4294967295"
	showsAs(t, impl.Policy{}, "arch 0 ; default kill 0 ;")
	showsAs(t, impl.Policy{Rules: []impl.Rule{{}}}, "arch 0 ; default kill 0 ; on any do kill 0 ;")
	showsAs(t, ofConds(impl.Cond{Mask: allBits, Cm: 5, Val: impl.Wide{Lo: 5}}), "arch 62 ; default allow 0 ; on 1 if arg 0 & "+all+" > 0 : 5 do log 0 ;")
	showsAs(t, ofRules(numRule(2, 13, 0, 7, 11, 4294967295), anyRule(1, 65535)), "arch 62 ; default allow 0 ; on 0 , 7 , 11 , 4294967295 do err 13 ; on any do trap 65535 ;")
	for cm, mark := range sixMarks {
		if cm == 0 {
			continue
		}
		for arg := range 3 {
			c := impl.Cond{Arg: arg, Mask: impl.Wide{Hi: 1, Lo: 2}, Cm: cm, Val: impl.Wide{Hi: 3, Lo: 4}}
			said := fmt.Sprintf("arg %d & 1 : 2 %s 3 : 4", arg, mark)
			for size := 1; size <= 3; size++ {
				showsAs(t, ofConds(slices.Repeat([]impl.Cond{c}, size)...), "arch 62 ; default allow 0 ; on 1 if "+strings.Join(slices.Repeat([]string{said}, size), " and ")+" do log 0 ;")
			}
		}
	}
	for action, name := range sixActions {
		for _, data := range dataEdges {
			showsAs(t, impl.Policy{Arch: 1, Action: action, Data: data, Rules: []impl.Rule{{Action: 5 - action, Data: data}}}, fmt.Sprintf("arch 1 ; default %s %d ; on any do %s %d ;", name, data, sixActions[5-action], data))
		}
	}
	// Calls by number, also those that have a name; their own order stays.
	for place := range twelveNames {
		showsAs(t, ofRules(numRule(5, 0, place, 99)), fmt.Sprintf("arch 62 ; default allow 0 ; on %d , 99 do allow 0 ;", place))
	}
	signs, _ := impl.SignsOf(allWords)
	p, _ := impl.ReadPolicy(impl.SignText(signs))
	showsAs(t, p, "arch 62 ; default err 13 ; on any do kill 0 ; on 0 , 1 , 7 if arg 0 & 1 : 255 <= 0 : 5 and arg 1 & "+all+" == 4294967295 : 0 and arg 2 & 0 : 3 != 0 : 9 do trace 65535 ; on 4294967295 if arg 2 & "+all+" >= 0 : 0 do allow 0 ;")
}

func TestShowPolicyOfWhatIsNotRight(t *testing.T) {
	for _, p := range wrongPolicies() {
		refusesToShow(t, p)
	}
	for _, nums := range [][]int{{1, 1}, {2, 1}, {0, 1, 2, 3, 4}, {-1}, {4294967296}} {
		refusesToShow(t, ofRules(numRule(5, 0, nums...)))
		refusesToShow(t, ofRules(anyRule(5, 0), numRule(5, 0, nums...)))
	}
	refusesToShow(t, ofRules(make([]impl.Rule, 11)...))
	refusesToShow(t, ofConds(slices.Repeat([]impl.Cond{anyCond(0)}, 4)...))
	refusesToShow(t, ofRules(make([]impl.Rule, 100000)...))
}

// A text of just MaxPolicy bytes is told and read, one that has a byte more is neither.
func TestShowPolicyAtMaxPolicy(t *testing.T) {
	for size := 1150; size <= 1250; size++ {
		p := ofSize(t, size)
		if policyComesBack(t, p) != (size <= impl.MaxPolicy) {
			t.Errorf("a policy of %d bytes comes back, or does not", size)
		}
		if size > 1200 {
			refusesPolicy(t, shownByRule(p))
		}
	}
	full := impl.Cond{Arg: 2, Mask: allBits, Cm: 6, Val: allBits}
	rule := impl.Rule{Nums: []int{4294967292, 4294967293, 4294967294, 4294967295}, Conds: []impl.Cond{full, full, full}, Action: 3, Data: 65535}
	for count := range 11 {
		policyComesBack(t, ofRules(slices.Repeat([]impl.Rule{rule}, count)...))
	}
	refusesToShow(t, impl.Policy{Arch: 4294967295, Action: 5, Data: 65535, Rules: slices.Repeat([]impl.Rule{rule}, 10)})
}

// wholePolicy has something in every field, and each time in lists of its own.
func wholePolicy() impl.Policy {
	rule := func(from int) impl.Rule {
		cond := func(at int) impl.Cond {
			return impl.Cond{Arg: at, Mask: impl.Wide{Hi: from + at, Lo: 20 + at}, Cm: 1 + at, Val: impl.Wide{Hi: 30 + at, Lo: from + 40 + at}}
		}
		return impl.Rule{Nums: []int{from, from + 2, from + 4}, Conds: []impl.Cond{cond(0), cond(1)}, Action: from % 6, Data: from + 100}
	}
	return impl.Policy{Arch: 62, Action: 2, Data: 13, Rules: []impl.Rule{rule(1), rule(2), rule(3)}}
}

func TestSamePolicyOfEachField(t *testing.T) {
	changes := []func(p *impl.Policy, n int){
		func(p *impl.Policy, n int) { p.Arch += n },
		func(p *impl.Policy, n int) { p.Action += n },
		func(p *impl.Policy, n int) { p.Data += n },
	}
	for i := range 3 {
		changes = append(changes,
			func(p *impl.Policy, n int) { p.Rules[i].Action += n },
			func(p *impl.Policy, n int) { p.Rules[i].Data += n })
		for at := range 3 {
			changes = append(changes, func(p *impl.Policy, n int) { p.Rules[i].Nums[at] += n })
		}
		for at := range 2 {
			changes = append(changes,
				func(p *impl.Policy, n int) { p.Rules[i].Conds[at].Arg += n },
				func(p *impl.Policy, n int) { p.Rules[i].Conds[at].Mask.Hi += n },
				func(p *impl.Policy, n int) { p.Rules[i].Conds[at].Mask.Lo += n },
				func(p *impl.Policy, n int) { p.Rules[i].Conds[at].Cm += n },
				func(p *impl.Policy, n int) { p.Rules[i].Conds[at].Val.Hi += n },
				func(p *impl.Policy, n int) { p.Rules[i].Conds[at].Val.Lo += n })
		}
	}
	sameIs(t, wholePolicy(), wholePolicy(), true)
	for _, change := range changes {
		for _, n := range []int{1, -1, 6, 65536, 4294967296, -4294967296, math.MinInt} {
			a, b := wholePolicy(), wholePolicy()
			change(&a, n)
			sameIs(t, a, b, false)
			change(&b, n)
			sameIs(t, a, b, true)
		}
	}
}

func TestSamePolicyOfListsOfOtherLengths(t *testing.T) {
	shorter := []func(p *impl.Policy){
		func(p *impl.Policy) { p.Rules = p.Rules[:2] },
		func(p *impl.Policy) { p.Rules = p.Rules[1:] },
		func(p *impl.Policy) { p.Rules = nil },
	}
	for i := range 3 {
		shorter = append(shorter,
			func(p *impl.Policy) { p.Rules[i].Nums = p.Rules[i].Nums[:2] },
			func(p *impl.Policy) { p.Rules[i].Nums = p.Rules[i].Nums[1:] },
			func(p *impl.Policy) { p.Rules[i].Nums = nil },
			func(p *impl.Policy) { p.Rules[i].Conds = p.Rules[i].Conds[:1] },
			func(p *impl.Policy) { p.Rules[i].Conds = p.Rules[i].Conds[1:] },
			func(p *impl.Policy) { p.Rules[i].Conds = nil },
			func(p *impl.Policy) { p.Rules[i].Conds = append(p.Rules[i].Conds, impl.Cond{}) },
			func(p *impl.Policy) { p.Rules[i].Nums = append(p.Rules[i].Nums, 0) })
	}
	shorter = append(shorter, func(p *impl.Policy) { p.Rules = append(p.Rules, impl.Rule{}) })
	for _, change := range shorter {
		a, b := wholePolicy(), wholePolicy()
		change(&a)
		sameIs(t, a, b, false)
		change(&b)
		sameIs(t, a, b, true)
	}
	sameIs(t, impl.Policy{}, ofRules(), false)
	sameIs(t, ofRules(), ofRules(impl.Rule{}), false)
	sameIs(t, ofRules(impl.Rule{}), ofRules(impl.Rule{}, impl.Rule{}), false)
}

// What stands in the spare room behind a list is none of it, and nil is an empty list.
func TestSamePolicyOfEmptyLists(t *testing.T) {
	sameIs(t, impl.Policy{}, impl.Policy{Rules: []impl.Rule{}}, true)
	sameIs(t, impl.Policy{}, impl.Policy{Rules: make([]impl.Rule, 0, 5)}, true)
	sameIs(t, impl.Policy{}, impl.Policy{Rules: make([]impl.Rule, 5)[:0]}, true)
	for _, rule := range []impl.Rule{{}, {Nums: []int{}}, {Conds: []impl.Cond{}}, {Nums: []int{1, 2}[:0], Conds: make([]impl.Cond, 3)[:0]}} {
		sameIs(t, ofRules(impl.Rule{}), ofRules(rule), true)
		sameIs(t, ofRules(rule, numRule(1, 2, 3)), ofRules(impl.Rule{}, numRule(1, 2, 3)), true)
		sameIs(t, ofRules(rule), ofRules(numRule(0, 0, 0)), false)
		sameIs(t, ofRules(rule), ofRules(condRule(0, 0, impl.Cond{})), false)
	}
	sameIs(t, ofRules(numRule(1, 2, []int{3, 4, 5}[:1]...)), ofRules(numRule(1, 2, []int{3, 6}[:1]...)), true)
}

func TestSamePolicyInAnotherOrder(t *testing.T) {
	for i := range 3 {
		for at := range i {
			p := wholePolicy()
			p.Rules[i], p.Rules[at] = p.Rules[at], p.Rules[i]
			sameIs(t, p, wholePolicy(), false)
			p = wholePolicy()
			p.Rules[2].Nums[i], p.Rules[2].Nums[at] = p.Rules[2].Nums[at], p.Rules[2].Nums[i]
			sameIs(t, p, wholePolicy(), false)
		}
		p := wholePolicy()
		p.Rules[i].Conds[0], p.Rules[i].Conds[1] = p.Rules[i].Conds[1], p.Rules[i].Conds[0]
		sameIs(t, p, wholePolicy(), false)
	}
	twice := wholePolicy()
	twice.Rules[1] = twice.Rules[0]
	other := wholePolicy()
	other.Rules[0] = other.Rules[1]
	sameIs(t, twice, other, false)
}

// Whether they are right is not asked, nor whether they decide alike.
func TestSamePolicyOfWhatIsNotRight(t *testing.T) {
	wrong := wrongPolicies()
	for i, p := range wrong {
		sameIs(t, p, p, true)
		next := wrong[(i+1)%len(wrong)]
		sameIs(t, p, next, plainly(p) == plainly(next))
		sameIs(t, p, wholePolicy(), false)
		sameIs(t, p, impl.Policy{}, false)
	}
	sameIs(t, ofRules(numRule(1, 1, 1, 2)), ofRules(numRule(1, 1, 2, 1)), false)
	sameIs(t, ofRules(numRule(1, 1, 1)), ofRules(numRule(1, 1, 1, 1)), false)
	sameIs(t, ofRules(anyRule(1, 1)), ofRules(anyRule(1, 1), anyRule(2, 2)), false)
	r := rand.New(rand.NewPCG(10, 3))
	for i := range 3000 {
		a, b := drawnPolicy(r, i%3), drawnPolicy(r, i%3)
		sameIs(t, a, b, plainly(a) == plainly(b))
		sameIs(t, a, a, true)
	}
}

func TestReadPolicyAnswersAreNewEachTime(t *testing.T) {
	first, _ := impl.ReadPolicy(allWords)
	second, _ := impl.ReadPolicy(allWords)
	want := plainly(second)
	for i := range first.Rules {
		first.Rules[i].Action = 77
		clear(first.Rules[i].Nums[:cap(first.Rules[i].Nums)])
		clear(first.Rules[i].Conds[:cap(first.Rules[i].Conds)])
	}
	clear(first.Rules[:cap(first.Rules)])
	third, _ := impl.ReadPolicy(allWords)
	if plainly(second) != want || plainly(third) != want {
		t.Errorf("an answer changes with another one: %v, %v; want %s", second, third, want)
	}
}

// No two lists of one answer share any: what is put behind one is seen in no other.
func TestReadPolicyListsShareNothing(t *testing.T) {
	text := inPolicy(strings.Repeat("on 3,2,1 if arg 0 == 1 and arg 1 == 2 do log;", 5) + strings.Repeat("on 4 if arg 2 == 3 do trap;", 5))
	p, ok := impl.ReadPolicy(text)
	want := plainly(p)
	if !ok {
		t.Fatalf("ReadPolicy(%q) is false", text)
	}
	_ = append(p.Rules, impl.Rule{Action: 77})
	for _, r := range p.Rules {
		_ = append(r.Nums, 77, 78)
		_ = append(r.Conds, impl.Cond{Arg: 77}, impl.Cond{Arg: 78})
		for i := len(r.Nums); i < cap(r.Nums); i++ {
			r.Nums[:cap(r.Nums)][i] = 79
		}
	}
	if plainly(p) != want {
		t.Errorf("two lists of one answer share memory: %v; want %s", p, want)
	}
	p.Rules[0].Nums[0], p.Rules[0].Conds[0].Arg = 99, 98
	for i, r := range p.Rules[1:] {
		if slices.Contains(r.Nums, 99) || r.Conds[0].Arg == 98 {
			t.Errorf("the lists of the rules 0 and %d are one", i+1)
		}
	}
}

func TestParsedPoliciesAreNotWrittenInto(t *testing.T) {
	for size := range 13 {
		p, x := withRoom(size)
		q, _ := withRoom(size)
		before := allOf(p, x)
		impl.ShowPolicy(p)
		impl.SamePolicy(p, q)
		impl.SamePolicy(q, p)
		impl.SamePolicy(p, p)
		if !reflect.DeepEqual(allOf(p, x), before) || !reflect.DeepEqual(allOf(q, x), before) {
			t.Errorf("with %d rules something was written into an argument or behind it", size)
		}
	}
	// Nums that are not in order stay so.
	p := ofRules(numRule(4, 0, 3, 1, 2))
	impl.ShowPolicy(p)
	impl.SamePolicy(p, ofRules(numRule(4, 0, 1, 2, 3)))
	if !slices.Equal(p.Rules[0].Nums, []int{3, 1, 2}) {
		t.Error("Nums were put in order where they stand")
	}
}

// Whatever comes in, all three answer, and the same each time.
func TestParseAnswersAtEveryArgument(t *testing.T) {
	for b := range 256 {
		one := string([]byte{byte(b)})
		for _, text := range []string{one, one + "arch 62; default allow;", "arch 62; default allow;" + one, "arch 62;" + one + "default allow;", "arch 6" + one + "; default allow;", inCond("arg 0 " + one + " 5"), inCond("arg 0 <" + one + "5"), inPolicy("on " + one + " do log;"), inPolicy("on 1" + one + "2 do log;")} {
			readsByTheRule(t, text)
			readsByTheRule(t, text)
		}
	}
	for _, text := range []string{allBytes(255), allBytes(1200), allBytes(1201), allBytes(3 * impl.MaxText), strings.Repeat("\xff", 1200), strings.Repeat("arch ", 240), strings.Repeat("on any ", 171), strings.Repeat(";", 1200), strings.Repeat("1,", 600), inPolicy("on " + strings.Repeat("1,", 580)), inPolicy("on 1 if " + strings.Repeat("arg 0 == 1 and ", 70)), inPolicy(strings.Repeat("on any do log;", 83))} {
		refusesPolicy(t, text)
		readsByTheRule(t, text)
	}
	long := impl.Rule{Nums: make([]int, 100000), Conds: make([]impl.Cond, 100000)}
	refusesToShow(t, ofRules(long))
	sameIs(t, ofRules(long), ofRules(long), true)
	sameIs(t, ofRules(long), ofRules(impl.Rule{Nums: long.Nums, Conds: long.Conds[1:]}), false)
	for _, cm := range slices.Concat(noCms, noArgs) {
		c := impl.Cond{Arg: cm, Cm: cm}
		if !condIsRight(c) {
			refusesToShow(t, ofConds(c))
		}
	}
}

// Texts of signs that are drawn, most of which are none of a policy.
func TestReadPolicyOfDrawnSigns(t *testing.T) {
	words := otherWords()
	r := rand.New(rand.NewPCG(10, 4))
	for range 20000 {
		signs := strings.Fields(shownByRule(shortPolicy(r, r.IntN(3))))
		for range r.IntN(3) {
			at := r.IntN(len(signs))
			switch r.IntN(3) {
			case 0:
				signs[at] = words[r.IntN(len(words))]
			case 1:
				signs = slices.Insert(signs, at, words[r.IntN(len(words))])
			default:
				signs[at] = signs[r.IntN(len(signs))]
			}
		}
		readsByTheRule(t, strings.Join(signs, " "))
	}
	for range 5000 {
		var text strings.Builder
		for range r.IntN(20) {
			text.WriteString(words[r.IntN(len(words))] + " ")
		}
		readsByTheRule(t, text.String())
	}
}
