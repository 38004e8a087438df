package tests

import (
	"cmp"
	"math"
	"slices"
	"testing"

	"loop.example/g00397/impl"
)

// Promise 4: Wide numbers are in one order, half by half.

// halfEdges are halves where a bit more or fewer, or a sign, would change an order.
var halfEdges = []int{0, 1, 2, 65535, 65536, 2147483647, 2147483648, 4294967294, 4294967295}

// noHalves are just outside, far outside, and those whose low 32 bits are a half.
var noHalves = []int{math.MinInt, math.MinInt + 1, -1 << 62, -4294967296, -4294967295, -2147483648, -2, -1, 4294967296, 4294967297, 8589934591, 1 << 33, 1 << 62, math.MaxInt - 1, math.MaxInt}

func widesOf(halves []int) []impl.Wide {
	var wides []impl.Wide
	for _, hi := range halves {
		for _, lo := range halves {
			wides = append(wides, impl.Wide{Hi: hi, Lo: lo})
		}
	}
	return wides
}

// wrongWides have a half that is none: the one, the other, or both.
func wrongWides() []impl.Wide {
	wides := widesOf(noHalves)
	for _, wrong := range noHalves {
		for _, half := range halfEdges {
			wides = append(wides, impl.Wide{Hi: wrong, Lo: half}, impl.Wide{Hi: half, Lo: wrong})
		}
	}
	return wides
}

// whole is a right wide number as the machine's own one of 64 bits.
func whole(w impl.Wide) uint64 { return uint64(w.Hi)<<32 | uint64(w.Lo) }

// plainCall has another number at each place.
func plainCall() impl.Call {
	return impl.Call{Arch: 62, Num: 1, Args: []impl.Wide{{Hi: 11, Lo: 10}, {Hi: 21, Lo: 20}, {Hi: 31, Lo: 30}}}
}

// withArg is plainCall with another one of its Args.
func withArg(at int, w impl.Wide) impl.Call {
	c := plainCall()
	c.Args[at] = w
	return c
}

func rightCalls() []impl.Call {
	calls := []impl.Call{
		{Args: make([]impl.Wide, 3)},
		plainCall(),
		{Arch: impl.MaxHalf, Num: impl.MaxHalf, Args: slices.Repeat([]impl.Wide{{Hi: impl.MaxHalf, Lo: impl.MaxHalf}}, 3)},
	}
	for _, half := range halfEdges {
		arch, num := plainCall(), plainCall()
		arch.Arch, num.Num = half, half
		calls = append(calls, arch, num)
	}
	for _, w := range widesOf(halfEdges) {
		for at := range 3 {
			calls = append(calls, withArg(at, w))
		}
	}
	return calls
}

func wrongCalls() []impl.Call {
	calls := []impl.Call{{}, {Arch: 62, Num: 1}, {Arch: 62, Num: 1, Args: []impl.Wide{}}}
	for _, count := range []int{0, 1, 2, 4, 5, 6, 7, 600} {
		calls = append(calls, impl.Call{Arch: 62, Num: 1, Args: make([]impl.Wide, count)})
	}
	for _, wrong := range noHalves {
		arch, num := plainCall(), plainCall()
		arch.Arch, num.Num = wrong, wrong
		calls = append(calls, arch, num)
	}
	for _, w := range wrongWides() {
		for at := range 3 {
			calls = append(calls, withArg(at, w))
		}
	}
	return calls
}

func TestCallConstants(t *testing.T) {
	if impl.MaxHalf != 4294967295 || impl.ArgCount != 3 {
		t.Error("a limit of chapter 4 is not the document's")
	}
}

func TestHalfOk(t *testing.T) {
	for _, n := range append([]int{impl.MaxHalf - 1, impl.MaxHalf}, halfEdges...) {
		if !impl.HalfOk(n) {
			t.Errorf("HalfOk(%d) is false", n)
		}
	}
	for bit := range 32 {
		if !impl.HalfOk(1<<bit) || !impl.HalfOk(impl.MaxHalf-1<<bit) {
			t.Errorf("HalfOk is false with the bit %d alone, or without it", bit)
		}
	}
	for _, n := range append([]int{impl.MaxHalf + 1}, noHalves...) {
		if impl.HalfOk(n) {
			t.Errorf("HalfOk(%d) is true", n)
		}
	}
	for bit := 32; bit < 64; bit++ {
		if impl.HalfOk(1<<bit) || impl.HalfOk(1<<bit|impl.MaxHalf) {
			t.Errorf("HalfOk is true with the bit %d", bit)
		}
	}
}

func TestWideOk(t *testing.T) {
	if !impl.WideOk(impl.Wide{}) {
		t.Error("WideOk of the zero value is false")
	}
	for _, w := range widesOf(halfEdges) {
		if !impl.WideOk(w) {
			t.Errorf("WideOk(%v) is false", w)
		}
	}
	for _, w := range wrongWides() {
		if impl.WideOk(w) {
			t.Errorf("WideOk(%v) is true", w)
		}
	}
}

func TestCallOk(t *testing.T) {
	for _, c := range rightCalls() {
		if !impl.CallOk(c) {
			t.Errorf("CallOk(%v) is false", c)
		}
	}
	for _, c := range wrongCalls() {
		if impl.CallOk(c) {
			t.Errorf("CallOk(%v) is true", c)
		}
	}
}

// What stands in the spare room behind the Args is none of the call's.
func TestCallOkLooksAtNoSpareRoom(t *testing.T) {
	room := []impl.Wide{{Lo: 1}, {Lo: 2}, {Lo: 3}, {Hi: -1, Lo: -1}}
	for size := range len(room) + 1 {
		if got := impl.CallOk(impl.Call{Args: room[:size]}); got != (size == 3) {
			t.Errorf("CallOk with %d Args and room behind = %v", size, got)
		}
	}
}

func TestWideCmpKnown(t *testing.T) {
	for _, c := range []struct {
		a, b impl.Wide
		want int
	}{
		{impl.Wide{}, impl.Wide{}, 0},
		{impl.Wide{Lo: 7}, impl.Wide{Hi: 1}, -1},
		{impl.Wide{Lo: impl.MaxHalf}, impl.Wide{Hi: 1}, -1},
		{impl.Wide{Hi: 1, Lo: impl.MaxHalf}, impl.Wide{Hi: 2, Lo: 0}, -1},
		{impl.Wide{Hi: 1, Lo: 2}, impl.Wide{Hi: 2, Lo: 1}, -1},
		{impl.Wide{Hi: 5, Lo: 1}, impl.Wide{Hi: 5, Lo: 2}, -1},
		{impl.Wide{Hi: 5, Lo: 2}, impl.Wide{Hi: 5, Lo: 2}, 0},
		{impl.Wide{Hi: impl.MaxHalf, Lo: impl.MaxHalf - 1}, impl.Wide{Hi: impl.MaxHalf, Lo: impl.MaxHalf}, -1},
		{impl.Wide{Hi: impl.MaxHalf, Lo: impl.MaxHalf}, impl.Wide{Hi: impl.MaxHalf, Lo: impl.MaxHalf}, 0},
		{impl.Wide{Hi: 2147483647}, impl.Wide{Hi: 2147483648}, -1},
		{impl.Wide{Lo: 2147483647}, impl.Wide{Lo: 2147483648}, -1},
	} {
		if got := impl.WideCmp(c.a, c.b); got != c.want {
			t.Errorf("WideCmp(%v, %v) = %d; want %d", c.a, c.b, got, c.want)
		}
		if got := impl.WideCmp(c.b, c.a); got != -c.want {
			t.Errorf("WideCmp(%v, %v) = %d; want %d", c.b, c.a, got, -c.want)
		}
	}
}

func TestWideCmpIsTheOrderOfWholeNumbers(t *testing.T) {
	wides := widesOf(halfEdges)
	for _, a := range wides {
		for _, b := range wides {
			if got, want := impl.WideCmp(a, b), cmp.Compare(whole(a), whole(b)); got != want {
				t.Errorf("WideCmp(%v, %v) = %d; want %d", a, b, got, want)
			}
		}
	}
}

// Each bit of the high half counts more than all of the low one.
func TestWideCmpBitByBit(t *testing.T) {
	for bit := range 32 {
		for _, rest := range halfEdges {
			higher := impl.Wide{Hi: rest | 1<<bit, Lo: 0}
			lower := impl.Wide{Hi: rest &^ (1 << bit), Lo: impl.MaxHalf}
			if impl.WideCmp(higher, lower) != 1 || impl.WideCmp(lower, higher) != -1 {
				t.Errorf("the bit %d of the high half of %v does not count", bit, higher)
			}
			more := impl.Wide{Hi: rest, Lo: rest | 1<<bit}
			less := impl.Wide{Hi: rest, Lo: rest &^ (1 << bit)}
			if impl.WideCmp(more, less) != 1 || impl.WideCmp(less, more) != -1 {
				t.Errorf("the bit %d of the low half of %v does not count", bit, more)
			}
		}
	}
}

// cmpOfHalves is the order that the document tells, of halves of any size.
func cmpOfHalves(a, b impl.Wide) int {
	if high := cmp.Compare(a.Hi, b.Hi); high != 0 {
		return high
	}
	return cmp.Compare(a.Lo, b.Lo)
}

func TestWideCmpOfNumbersThatAreNotRight(t *testing.T) {
	wides := widesOf(append(slices.Clone(noHalves), 0, 1, 4294967295))
	for _, a := range wides {
		for _, b := range wides {
			if got, want := impl.WideCmp(a, b), cmpOfHalves(a, b); got != want {
				t.Errorf("WideCmp(%v, %v) = %d; want %d", a, b, got, want)
			}
		}
	}
}

func TestWideCmpIsOneOrder(t *testing.T) {
	wides := widesOf([]int{math.MinInt, -1, 0, 1, 2147483647, 2147483648, 4294967294, 4294967295, 4294967296, math.MaxInt})
	for _, a := range wides {
		for _, b := range wides {
			ab := impl.WideCmp(a, b)
			if ab < -1 || ab > 1 || (ab == 0) != (a.Hi == b.Hi && a.Lo == b.Lo) || impl.WideCmp(b, a) != -ab {
				t.Errorf("WideCmp(%v, %v) = %d, the other way round %d", a, b, ab, impl.WideCmp(b, a))
			}
			if ab >= 0 {
				continue
			}
			for _, c := range wides {
				if impl.WideCmp(b, c) < 0 && impl.WideCmp(a, c) != -1 {
					t.Errorf("%v is less than %v, this less than %v, but not the first less than the last", a, b, c)
				}
			}
		}
	}
}

func TestWideCmpSorts(t *testing.T) {
	sorted := widesOf(halfEdges)
	for step := 1; step < len(sorted); step += 2 {
		var mixed []impl.Wide
		for first := range step {
			for i := first; i < len(sorted); i += step {
				mixed = append(mixed, sorted[i])
			}
		}
		slices.Reverse(mixed)
		slices.SortFunc(mixed, impl.WideCmp)
		if !slices.Equal(mixed, sorted) {
			t.Errorf("sorted by WideCmp, mixed by %d, they are %v", step, mixed)
		}
	}
}

func TestWideAndHalfByHalf(t *testing.T) {
	all := impl.Wide{Hi: impl.MaxHalf, Lo: impl.MaxHalf}
	wides := append(widesOf(halfEdges), impl.Wide{Hi: 0x12345678, Lo: 0x9abcdef0}, impl.Wide{Hi: 0xaaaaaaaa, Lo: 0x55555555})
	for _, a := range wides {
		for _, b := range wides {
			want := impl.Wide{Hi: int(uint32(a.Hi) & uint32(b.Hi)), Lo: int(uint32(a.Lo) & uint32(b.Lo))}
			if got := impl.WideAnd(a, b); got != want {
				t.Errorf("WideAnd(%v, %v) = %v; want %v", a, b, got, want)
			}
		}
		if got := impl.WideAnd(a, all); got != a {
			t.Errorf("WideAnd(%v, all bits) = %v", a, got)
		}
		if got := impl.WideAnd(all, a); got != a {
			t.Errorf("WideAnd(all bits, %v) = %v", a, got)
		}
		if got := impl.WideAnd(a, impl.Wide{}); got != (impl.Wide{}) {
			t.Errorf("WideAnd(%v, no bits) = %v", a, got)
		}
	}
	if got, want := impl.WideAnd(impl.Wide{Hi: 12, Lo: 7}, impl.Wide{Hi: 10, Lo: 3}), (impl.Wide{Hi: 8, Lo: 3}); got != want {
		t.Errorf("WideAnd = %v; want %v", got, want)
	}
}

func TestWideAndBitByBit(t *testing.T) {
	all := impl.Wide{Hi: impl.MaxHalf, Lo: impl.MaxHalf}
	for bit := range 32 {
		for _, one := range []impl.Wide{{Hi: 1 << bit}, {Lo: 1 << bit}, {Hi: 1 << bit, Lo: 1 << bit}} {
			without := impl.Wide{Hi: impl.MaxHalf - one.Hi, Lo: impl.MaxHalf - one.Lo}
			if impl.WideAnd(one, all) != one || impl.WideAnd(one, one) != one || impl.WideAnd(one, without) != (impl.Wide{}) || impl.WideAnd(without, all) != without {
				t.Errorf("WideAnd is wrong at %v", one)
			}
		}
	}
}

func TestWideAndOfNumbersThatAreNotRight(t *testing.T) {
	right := []impl.Wide{{}, {Hi: 1, Lo: 1}, {Hi: impl.MaxHalf, Lo: impl.MaxHalf}, {Hi: 1 << 31, Lo: 1 << 31}}
	wrong := wrongWides()
	for i, w := range wrong {
		for _, r := range append(right, w, wrong[len(wrong)-1-i]) {
			if got := impl.WideAnd(w, r); got != (impl.Wide{}) {
				t.Errorf("WideAnd(%v, %v) = %v; want nothing", w, r, got)
			}
			if got := impl.WideAnd(r, w); got != (impl.Wide{}) {
				t.Errorf("WideAnd(%v, %v) = %v; want nothing", r, w, got)
			}
		}
	}
}

func TestFieldAtEveryPlace(t *testing.T) {
	for at, want := range []int{1, 62, 10, 11, 20, 21, 30, 31} {
		if n, ok := impl.FieldAt(plainCall(), at); !ok || n != want {
			t.Errorf("FieldAt(%v, %d) = %d, %v; want %d, true", plainCall(), at, n, ok, want)
		}
	}
	for _, c := range rightCalls() {
		fields := []int{c.Num, c.Arch}
		for _, arg := range c.Args {
			fields = append(fields, arg.Lo, arg.Hi)
		}
		for at, want := range fields {
			if n, ok := impl.FieldAt(c, at); !ok || n != want {
				t.Errorf("FieldAt(%v, %d) = %d, %v; want %d, true", c, at, n, ok, want)
			}
		}
	}
}

func hasNoField(t *testing.T, c impl.Call, at int) {
	t.Helper()
	if n, ok := impl.FieldAt(c, at); ok || n != 0 {
		t.Errorf("FieldAt(%v, %d) = %d, %v; want 0, false", c, at, n, ok)
	}
}

func TestFieldAtNoPlace(t *testing.T) {
	for _, c := range rightCalls() {
		for _, at := range append([]int{-8, -7, -3, 8, 9, 10, 256, 264}, farPlaces...) {
			hasNoField(t, c, at)
		}
	}
	// A fourth one in the spare room is none of the call's.
	room := make([]impl.Wide, 4, 8)
	c := plainCall()
	c.Args = room[:3]
	hasNoField(t, c, 8)
	hasNoField(t, c, 9)
}

func TestFieldAtOfCallsThatAreNotRight(t *testing.T) {
	for _, c := range wrongCalls() {
		for at := -2; at <= 10; at++ {
			hasNoField(t, c, at)
		}
		hasNoField(t, c, math.MinInt)
		hasNoField(t, c, math.MaxInt)
	}
}

func TestCallsAreNotWrittenInto(t *testing.T) {
	for _, arg := range []impl.Wide{{}, {Hi: impl.MaxHalf, Lo: impl.MaxHalf}, {Hi: -1, Lo: 5}, {Hi: 5, Lo: impl.MaxHalf + 1}} {
		for size := range 6 {
			room := slices.Repeat([]impl.Wide{{Hi: 77, Lo: 78}}, 8)
			for i := range size {
				room[i] = arg
			}
			before := slices.Clone(room)
			c := impl.Call{Arch: 62, Num: 1, Args: room[:size]}
			impl.CallOk(c)
			for at := -1; at <= 8; at++ {
				impl.FieldAt(c, at)
			}
			if !slices.Equal(room, before) {
				t.Errorf("a call with %d Args was written into: %v; it was %v", size, room, before)
			}
		}
	}
}

// Whatever comes in, a call answers, and the same each time; beside a false stands nothing.
func TestCallsAnswerAtEveryArgument(t *testing.T) {
	numbers := append(append(slices.Clone(halfEdges), noHalves...), 3, 7, 8)
	for _, n := range numbers {
		right := n >= 0 && n < 1<<32
		if impl.HalfOk(n) != right || impl.WideOk(impl.Wide{Hi: n}) != right || impl.WideOk(impl.Wide{Lo: n}) != right {
			t.Errorf("whether %d is a half is told in two ways", n)
		}
		for _, m := range numbers {
			c := impl.Call{Arch: n, Num: m, Args: []impl.Wide{{Hi: n, Lo: m}, {Hi: m, Lo: n}, {}}}
			ok := impl.CallOk(c)
			if ok != (impl.HalfOk(n) && impl.HalfOk(m)) {
				t.Errorf("CallOk(%v) = %v", c, ok)
			}
			for _, at := range numbers {
				first, told := impl.FieldAt(c, at)
				again, _ := impl.FieldAt(c, at)
				if told != (ok && at >= 0 && at < 8) || !told && first != 0 || first != again {
					t.Errorf("FieldAt(%v, %d) = %d, %v", c, at, first, told)
				}
			}
		}
	}
}
