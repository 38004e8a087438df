package tests

import (
	"math"
	"slices"
	"testing"

	"loop.example/g00397/impl"
)

// Promise 5: Of two results the stricter one counts.

// dataEdges are numbers that may stand beside an action: the ends, and where a bit more or fewer would change it.
var dataEdges = []int{0, 1, 2, 5, 13, 255, 256, 32767, 32768, 65534, 65535}

// noActions are just outside, far outside, and those whose low 32 bits, or low 48, are an action.
var noActions = []int{math.MinInt, math.MinInt + 1, math.MinInt + 5, -1 << 48, -1 << 32, -65536, -6, -5, -2, -1, 6, 7, 8, 9, 255, 256, 65535, 65536, 1 << 32, 1<<32 + 5, 1 << 48, 1<<48 + 1, 1<<62 + 5, math.MaxInt - 1, math.MaxInt}

// noData are just outside, far outside, and those whose low 16 bits would do.
var noData = []int{math.MinInt, math.MinInt + 1, -1 << 32, -65537, -65536, -65535, -2, -1, 65536, 65537, 131071, 131072, 1 << 32, 1<<32 + 1, 1 << 62, math.MaxInt - 1, math.MaxInt}

// noResults are no 65536 times an action and a number below that; some would be, were they cut to 32 bits or turned positive.
var noResults = []int{
	math.MinInt, math.MinInt + 1, math.MinInt + 65536, math.MinInt + 5*65536, -1 << 62, -1 << 32, -1<<32 + 131085,
	-6 * 65536, -5 * 65536, -5*65536 - 1, -131085, -131072, -65537, -65536, -65535, -32768, -2, -1,
	6 * 65536, 6*65536 + 1, 6*65536 + 65535, 7 * 65536, 8 * 65536, 255 * 65536, 256 * 65536, 1 << 31, 4294967295, 1 << 32, 1<<32 + 5*65536, 1<<32 + 131085, 1 << 48, 1<<48 + 65536, 1 << 62, math.MaxInt - 65536, math.MaxInt - 1, math.MaxInt,
}

// actionNumbers are the six as the document numbers them, not as the program names them.
var actionNumbers = []int{0, 1, 2, 3, 4, 5}

func resultsOf(action int) []int {
	var results []int
	for _, data := range dataEdges {
		results = append(results, 65536*action+data)
	}
	return results
}

// numbersByAction has, at each action's place, numbers of that action: at the first one those, too, that are no results.
func numbersByAction() [][]int {
	var lists [][]int
	for _, action := range actionNumbers {
		lists = append(lists, resultsOf(action))
	}
	lists[0] = append(lists[0], noResults...)
	return lists
}

func resultIs(t *testing.T, action, data, want int) {
	t.Helper()
	if got := impl.ResultOf(action, data); got != want {
		t.Errorf("ResultOf(%d, %d) = %d; want %d", action, data, got, want)
	}
}

func actionIs(t *testing.T, result, want int) {
	t.Helper()
	if got := impl.ActionIn(result); got != want {
		t.Errorf("ActionIn(%d) = %d; want %d", result, got, want)
	}
}

func stricterIs(t *testing.T, a, b, want int) {
	t.Helper()
	if got := impl.Stricter(a, b); got != want {
		t.Errorf("Stricter(%d, %d) = %d; want %d", a, b, got, want)
	}
}

func nameIs(t *testing.T, action int, want string) {
	t.Helper()
	if got := impl.ActionName(action); got != want {
		t.Errorf("ActionName(%d) = %q; want %q", action, got, want)
	}
}

func TestActionConstants(t *testing.T) {
	named := []int{impl.ActKill, impl.ActTrap, impl.ActErr, impl.ActTrace, impl.ActLog, impl.ActAllow}
	if !slices.Equal(named, actionNumbers) {
		t.Errorf("the actions are %v; want %v", named, actionNumbers)
	}
}

// The document's constants have no type: they are numbers of any kind.
func TestActionConstantsHaveNoType(t *testing.T) {
	var wide uint32 = impl.ActAllow
	var narrow byte = impl.ActErr
	if wide != 5 || narrow != 2 || 65536.5*impl.ActTrap != 65536.5 {
		t.Error("a constant of chapter 5 is not its number")
	}
}

func TestResultOfKnown(t *testing.T) {
	resultIs(t, impl.ActErr, 13, 131085)
	resultIs(t, impl.ActKill, 0, 0)
	resultIs(t, impl.ActKill, 1, 1)
	resultIs(t, impl.ActKill, 65535, 65535)
	resultIs(t, impl.ActTrap, 0, 65536)
	resultIs(t, impl.ActTrap, 65535, 131071)
	resultIs(t, impl.ActTrace, 65534, 262142)
	resultIs(t, impl.ActLog, 1, 262145)
	resultIs(t, impl.ActAllow, 0, 327680)
	resultIs(t, impl.ActAllow, 65535, 393215)
}

// Each action at each of its data: counted up, without the program's rule.
func TestResultOfEveryActionAndData(t *testing.T) {
	want := 0
	for _, action := range actionNumbers {
		for data := range 65536 {
			resultIs(t, action, data, want)
			actionIs(t, want, action)
			want++
		}
	}
	actionIs(t, want, impl.ActKill)
}

func TestResultOfNoAction(t *testing.T) {
	for _, action := range noActions {
		for _, data := range append(slices.Clone(dataEdges), noData...) {
			resultIs(t, action, data, 0)
		}
	}
}

func TestResultOfNoData(t *testing.T) {
	for _, action := range actionNumbers {
		for _, data := range noData {
			resultIs(t, action, data, 0)
		}
	}
}

func TestActionInKnown(t *testing.T) {
	actionIs(t, 131085, impl.ActErr)
	actionIs(t, 0, impl.ActKill)
	actionIs(t, 65535, impl.ActKill)
	actionIs(t, 65536, impl.ActTrap)
	actionIs(t, 131071, impl.ActTrap)
	actionIs(t, 196607, impl.ActErr)
	actionIs(t, 196608, impl.ActTrace)
	actionIs(t, 262143, impl.ActTrace)
	actionIs(t, 262144, impl.ActLog)
	actionIs(t, 327679, impl.ActLog)
	actionIs(t, 327680, impl.ActAllow)
	actionIs(t, 393215, impl.ActAllow)
	actionIs(t, 393216, impl.ActKill)
}

func TestActionInOfNoResult(t *testing.T) {
	for _, result := range noResults {
		actionIs(t, result, impl.ActKill)
	}
	for bit := 19; bit < 64; bit++ {
		for _, action := range actionNumbers {
			actionIs(t, 1<<bit|65536*action, impl.ActKill)
			actionIs(t, 1<<bit|65536*action|65535, impl.ActKill)
		}
	}
	for n := 1; n < 8*65536; n += 97 {
		actionIs(t, -n, impl.ActKill)
	}
	for n := 6 * 65536; n < 20*65536; n += 97 {
		actionIs(t, n, impl.ActKill)
	}
}

func TestStricterKnown(t *testing.T) {
	stricterIs(t, 131085, 327680, 131085)
	stricterIs(t, 327680, 131085, 131085)
	stricterIs(t, 65535, 65536, 65535)
	stricterIs(t, 65536, 65535, 65535)
	stricterIs(t, 0, 393215, 0)
	stricterIs(t, 393215, 0, 0)
	stricterIs(t, 131085, 131072, 131085) // the same action: the first, though its data is more
	stricterIs(t, 131072, 131085, 131072)
	stricterIs(t, 65535, 0, 65535)
	stricterIs(t, 0, 65535, 0)
	stricterIs(t, 0, 0, 0)
	stricterIs(t, 393215, 393215, 393215)
}

// The lesser action counts, whichever is first and whatever their data; of one action the first.
func TestStricterOfAnyTwo(t *testing.T) {
	lists := numbersByAction()
	for less, stricts := range lists {
		for more := less; more < len(lists); more++ {
			for _, strict := range stricts {
				for _, mild := range lists[more] {
					stricterIs(t, strict, mild, strict)
					if more > less {
						stricterIs(t, mild, strict, strict)
					} else {
						stricterIs(t, mild, strict, mild)
					}
				}
			}
		}
	}
}

// What is none kills as it stands: it is not made a result, and gives way to no other.
func TestStricterOfNoResults(t *testing.T) {
	for _, none := range noResults {
		for _, action := range actionNumbers[1:] {
			for _, result := range resultsOf(action) {
				stricterIs(t, none, result, none)
				stricterIs(t, result, none, none)
			}
		}
		for _, kill := range resultsOf(impl.ActKill) {
			stricterIs(t, none, kill, none)
			stricterIs(t, kill, none, kill)
		}
		for _, other := range noResults {
			stricterIs(t, none, other, none)
		}
	}
}

// Of many, one behind the other, the strictest is left, and of those alike the first.
func TestStricterOfManyInAnyOrder(t *testing.T) {
	lists := numbersByAction()
	for first := range lists {
		all := slices.Concat(lists[first:]...)
		for turn := range all {
			mixed := slices.Concat(all[turn:], all[:turn])
			want := mixed[slices.IndexFunc(mixed, func(n int) bool { return slices.Contains(lists[first], n) })]
			so := mixed[0]
			for _, result := range mixed[1:] {
				so = impl.Stricter(so, result)
			}
			if so != want {
				t.Errorf("from the action %d on, turned by %d, %d is left; want %d", first, turn, so, want)
			}
		}
	}
}

func TestStricterMayBeTakenInAnyGroups(t *testing.T) {
	numbers := []int{math.MinInt, -1, 0, 1, 65535, 65536, 65537, 131085, 262144, 327680, 393215, 393216, math.MaxInt}
	for _, a := range numbers {
		for _, b := range numbers {
			for _, c := range numbers {
				left := impl.Stricter(impl.Stricter(a, b), c)
				right := impl.Stricter(a, impl.Stricter(b, c))
				if left != right {
					t.Errorf("of %d, %d and %d the strictest is %d or %d", a, b, c, left, right)
				}
			}
		}
	}
}

func TestActionNames(t *testing.T) {
	for action, want := range []string{"kill", "trap", "err", "trace", "log", "allow"} {
		nameIs(t, action, want)
	}
	for _, action := range noActions {
		nameIs(t, action, "")
	}
	for action := 6; action < 70000; action++ {
		nameIs(t, action, "")
		nameIs(t, 5-action, "")
	}
	for _, action := range actionNumbers[1:] {
		nameIs(t, 65536*action, "") // a result is not its action
	}
}

// Whatever comes in, a call answers, and the same each time; the answer is one of what it may be.
func TestActionsAnswerAtEveryArgument(t *testing.T) {
	numbers := slices.Concat(actionNumbers, dataEdges, noActions, noData, noResults, resultsOf(3))
	for _, a := range numbers {
		if action := impl.ActionIn(a); action < 0 || action > 5 || action != impl.ActionIn(a) {
			t.Errorf("ActionIn(%d) = %d", a, action)
		}
		if impl.ActionName(impl.ActionIn(a)) == "" || impl.ActionName(a) != impl.ActionName(a) {
			t.Errorf("ActionName has no name of ActionIn(%d)", a)
		}
		for _, b := range numbers {
			if got := impl.Stricter(a, b); got != a && got != b || got != impl.Stricter(a, b) {
				t.Errorf("Stricter(%d, %d) = %d", a, b, got)
			}
			result := impl.ResultOf(a, b)
			right := a >= 0 && a <= 5 && b >= 0 && b <= 65535
			if !right && result != 0 || right && (impl.ActionIn(result) != a || result%65536 != b) || result != impl.ResultOf(a, b) {
				t.Errorf("ResultOf(%d, %d) = %d", a, b, result)
			}
		}
	}
}
