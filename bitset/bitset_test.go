package bitset_test

import (
	"math"
	"slices"
	"testing"

	"portolan/api"
	"portolan/bitset"
)

// edges has numbers about all bounds: of words, of MaxSet, of int.
var edges = []int{
	math.MinInt, -1 << 32, -4096, -65, -64, -63, -1,
	0, 1, 2, 31, 32, 62, 63, 64, 65, 70, 127, 128, 200, 4031, 4032, 4094, 4095,
	4096, 4097, 4159, 4160, 5000, 12799, 12800, 1 << 31, 1 << 32, 1<<32 + 3, math.MaxInt - 63, math.MaxInt,
}

// samples makes sets anew: ordinary ones, ones with words of 0 at the end, ones with numbers beyond MaxSet.
func samples() [][]uint64 {
	mixed := make([]uint64, 40)
	high := make([]uint64, 200)
	x := uint64(1)
	for i := range high {
		x = x*6364136223846793005 + 1442695040888963407
		high[i] = x
		if i < len(mixed) {
			mixed[i] = x >> (i % 64)
		}
	}
	return [][]uint64{
		nil,
		{},
		{0},
		{0, 0, 0},
		{1},
		{1, 0, 0},
		{1 << 63},
		{0, 1},
		{1 << 63, 1},
		{1, 2, 1 << 8},
		{12},
		{0, 0, 5, 0},
		{math.MaxUint64},
		{math.MaxUint64, math.MaxUint64, 0},
		{0x5555555555555555, 0xaaaaaaaaaaaaaaaa, 0xf0f0f0f0f0f0f0f0},
		{0xaaaaaaaaaaaaaaaa, 0x5555555555555555},
		mixed,
		words([]int{0, 4095}),
		words([]int{63, 64, 4096}),
		words([]int{4097, 5000}),
		append(words([]int{7, 4095}), make([]uint64, 30)...),
		make([]uint64, 100),
		high,
		append(slices.Clone(high), 0, 0),
	}
}

// in is what the chapter says of a number in a set.
func in(s []uint64, n int) bool {
	if n < 0 || n/64 >= len(s) {
		return false
	}
	return s[n/64]>>(n%64)%2 == 1
}

// numbers is those of a set, rising.
func numbers(s []uint64) []int {
	var l []int
	for n := range 64 * len(s) {
		if in(s, n) {
			l = append(l, n)
		}
	}
	return l
}

// words is the set of rising numbers in one way.
func words(rising []int) []uint64 {
	if len(rising) == 0 {
		return nil
	}
	s := make([]uint64, rising[len(rising)-1]/64+1)
	for _, n := range rising {
		s[n/64] += 1 << (n % 64)
	}
	return s
}

// only is the rising numbers up to a bound that hold asks for.
func only(bound int, hold func(n int) bool) []int {
	var l []int
	for n := range bound {
		if hold(n) {
			l = append(l, n)
		}
	}
	return l
}

// long is a bound that no number of these sets reaches.
func long(l ...[]uint64) int {
	most := 0
	for _, s := range l {
		most = max(most, 64*len(s))
	}
	return most
}

// lists has numbers to be put in, or taken out.
func lists() [][]int {
	l := [][]int{
		nil,
		{},
		{1, 70},
		{70, 1},
		{70, 1, 70, 1, 1},
		{3, 70, 3, -1, 4096},
		{4095, 0, 63, 64},
		{-1, math.MinInt, 4096, math.MaxInt},
		{5000, 2, 4097},
		slices.Clone(edges),
	}
	for _, n := range edges {
		l = append(l, []int{n})
	}
	all := make([]int, 0, 5000)
	for n := 4500; n > -500; n-- {
		all = append(all, n)
	}
	return append(l, all)
}

// P2.1: of Of, word by word.
func TestOf(t *testing.T) {
	top := make([]uint64, 64)
	top[63] = 1 << 63
	for _, x := range []struct {
		l []int
		s []uint64
	}{
		{nil, nil},
		{[]int{0}, []uint64{1}},
		{[]int{63}, []uint64{1 << 63}},
		{[]int{64}, []uint64{0, 1}},
		{[]int{1, 70}, []uint64{2, 1 << 6}},
		{[]int{70, 1}, []uint64{2, 1 << 6}},
		{[]int{3, 70, 3, -1, 4096}, []uint64{8, 1 << 6}},
		{[]int{4095}, top},
		{[]int{4096}, nil},
		{[]int{-1}, nil},
		{[]int{-64, math.MinInt, math.MaxInt, 1 << 32, 9999}, nil},
	} {
		if got := bitset.Of(x.l...); !slices.Equal(got, x.s) {
			t.Errorf("Of(%v) = %v", x.l, got)
		}
	}
	for _, l := range lists() {
		want := words(only(api.MaxSet, func(n int) bool { return slices.Contains(l, n) }))
		if got := bitset.Of(l...); !slices.Equal(got, want) {
			t.Errorf("Of(%v) = %v", l, got)
		}
	}
}

// P2.1: of Has, also of numbers that are in no set.
func TestHas(t *testing.T) {
	for _, s := range samples() {
		for _, n := range edges {
			if got := bitset.Has(s, n); got != in(s, n) {
				t.Errorf("Has(%v, %d) = %t", s, n, got)
			}
		}
		for n := -70; n < long(s)+70; n++ {
			if got := bitset.Has(s, n); got != in(s, n) {
				t.Errorf("Has(%v, %d) = %t", s, n, got)
			}
		}
	}
}

// P2.1: With puts in what Of does, and keeps what the set has, beyond MaxSet too.
func TestWith(t *testing.T) {
	for _, s := range samples() {
		for _, l := range lists() {
			want := words(only(max(long(s), api.MaxSet), func(n int) bool {
				return in(s, n) || n < api.MaxSet && slices.Contains(l, n)
			}))
			if got := bitset.With(s, l...); !slices.Equal(got, want) {
				t.Errorf("With(%v, %v) = %v", s, l, got)
			}
		}
	}
}

// P2.1: Without takes out any number, beyond MaxSet too.
func TestWithout(t *testing.T) {
	if got := bitset.Without(bitset.Of(1, 70), 70); !slices.Equal(got, []uint64{2}) {
		t.Errorf("Without(Of(1, 70), 70) = %v", got)
	}
	if got := bitset.Without(bitset.Of(1, 70, 4095), 4095, 70, 1, 1, -1); len(got) != 0 {
		t.Errorf("all of a set is taken out, and %v is left", got)
	}
	for _, s := range samples() {
		for _, l := range lists() {
			want := words(only(long(s), func(n int) bool { return in(s, n) && !slices.Contains(l, n) }))
			if got := bitset.Without(s, l...); !slices.Equal(got, want) {
				t.Errorf("Without(%v, %v) = %v", s, l, got)
			}
		}
	}
}

// P2.1: of Join, Meet, Less, Same, and Holds, each two samples.
func TestTwo(t *testing.T) {
	for _, a := range samples() {
		for _, b := range samples() {
			bound := long(a, b)
			either := only(bound, func(n int) bool { return in(a, n) || in(b, n) })
			both := only(bound, func(n int) bool { return in(a, n) && in(b, n) })
			first := only(bound, func(n int) bool { return in(a, n) && !in(b, n) })
			second := only(bound, func(n int) bool { return in(b, n) && !in(a, n) })
			if got := bitset.Join(a, b); !slices.Equal(got, words(either)) {
				t.Errorf("Join(%v, %v) = %v", a, b, got)
			}
			if got := bitset.Meet(a, b); !slices.Equal(got, words(both)) {
				t.Errorf("Meet(%v, %v) = %v", a, b, got)
			}
			if got := bitset.Less(a, b); !slices.Equal(got, words(first)) {
				t.Errorf("Less(%v, %v) = %v", a, b, got)
			}
			if got := bitset.Same(a, b); got != (len(first)+len(second) == 0) {
				t.Errorf("Same(%v, %v) = %t", a, b, got)
			}
			if got := bitset.Holds(a, b); got != (len(second) == 0) {
				t.Errorf("Holds(%v, %v) = %t", a, b, got)
			}
		}
	}
}

// P2.1: Join of however many sets.
func TestJoinMany(t *testing.T) {
	if got := bitset.Join(); len(got) != 0 {
		t.Errorf("Join() = %v", got)
	}
	all := samples()
	for count := range len(all) + 1 {
		l := all[:count]
		want := words(only(long(l...), func(n int) bool {
			return slices.ContainsFunc(l, func(s []uint64) bool { return in(s, n) })
		}))
		if got := bitset.Join(l...); !slices.Equal(got, want) {
			t.Errorf("the first %d samples are joined to %v", count, got)
		}
	}
	for _, s := range all {
		if got := bitset.Join(s); !slices.Equal(got, words(numbers(s))) {
			t.Errorf("Join(%v) = %v", s, got)
		}
	}
}

// P2.1: of List and Count.
func TestList(t *testing.T) {
	for _, s := range samples() {
		want := numbers(s)
		if got := bitset.List(s); !slices.Equal(got, want) {
			t.Errorf("List(%v) = %v", s, got)
		}
		if got := bitset.Count(s); got != len(want) {
			t.Errorf("Count(%v) = %d", s, got)
		}
	}
}

// P2.1: words of 0 at the end tell no sets from one another.
func TestZeros(t *testing.T) {
	for _, s := range samples() {
		for _, zeros := range []int{0, 1, 2, 70} {
			padded := append(slices.Clone(s), make([]uint64, zeros)...)
			if !bitset.Same(s, padded) || !bitset.Same(padded, s) {
				t.Errorf("%v and %v aren't the same", s, padded)
			}
			if !bitset.Holds(s, padded) || !bitset.Holds(padded, s) {
				t.Errorf("%v and %v don't hold each other", s, padded)
			}
		}
	}
}

// P2.2: what is joined and met doesn't hang on the order.
func TestOrder(t *testing.T) {
	all := samples()
	for _, a := range all {
		for _, b := range all {
			if x, y := bitset.Join(a, b), bitset.Join(b, a); !slices.Equal(x, y) {
				t.Errorf("%v and %v are joined to %v, and %v", a, b, x, y)
			}
			if x, y := bitset.Meet(a, b), bitset.Meet(b, a); !slices.Equal(x, y) {
				t.Errorf("%v and %v are met to %v, and %v", a, b, x, y)
			}
			for _, c := range all[:20] {
				checkThree(t, a, b, c)
			}
		}
	}
	there := bitset.Join(all...)
	slices.Reverse(all)
	if back := bitset.Join(all...); !slices.Equal(there, back) {
		t.Errorf("all are joined to %v, and %v", there, back)
	}
}

// checkThree holds against one another the orders in which three sets may be made one.
func checkThree(t *testing.T, a, b, c []uint64) {
	want := bitset.Join(a, b, c)
	for _, got := range [][]uint64{
		bitset.Join(c, a, b), bitset.Join(b, a, c),
		bitset.Join(bitset.Join(a, b), c), bitset.Join(a, bitset.Join(b, c)),
	} {
		if !slices.Equal(got, want) {
			t.Errorf("%v, %v, and %v are joined to %v, and %v", a, b, c, want, got)
		}
	}
	x, y := bitset.Meet(bitset.Meet(a, b), c), bitset.Meet(a, bitset.Meet(b, c))
	if !slices.Equal(x, y) {
		t.Errorf("%v, %v, and %v are met to %v, and %v", a, b, c, x, y)
	}
}

// P2.2: what is met is held, what is joined holds.
func TestHeld(t *testing.T) {
	for _, a := range samples() {
		for _, b := range samples() {
			met, joined := bitset.Meet(a, b), bitset.Join(a, b)
			for _, s := range [][]uint64{a, b} {
				if !bitset.Holds(s, met) {
					t.Errorf("%v doesn't hold %v", s, met)
				}
				if !bitset.Holds(joined, s) {
					t.Errorf("%v doesn't hold %v", joined, s)
				}
			}
		}
	}
}

// sets is each call that answers a set, of two sets and some numbers.
func sets() map[string]func(a, b []uint64, l []int) []uint64 {
	return map[string]func(a, b []uint64, l []int) []uint64{
		"Of":      func(a, b []uint64, l []int) []uint64 { return bitset.Of(l...) },
		"With":    func(a, b []uint64, l []int) []uint64 { return bitset.With(a, l...) },
		"Without": func(a, b []uint64, l []int) []uint64 { return bitset.Without(a, l...) },
		"Join":    func(a, b []uint64, l []int) []uint64 { return bitset.Join(a, b) },
		"Join1":   func(a, b []uint64, l []int) []uint64 { return bitset.Join(a) },
		"Meet":    func(a, b []uint64, l []int) []uint64 { return bitset.Meet(a, b) },
		"Less":    func(a, b []uint64, l []int) []uint64 { return bitset.Less(a, b) },
	}
}

// roomy is s with spare room behind it, and s and its room as one list.
func roomy(s []uint64) (part, whole []uint64) {
	whole = append(slices.Clone(s), 77, 77, 77, 77, 77)
	return whole[:len(s)], whole
}

// P2.1, and rule 5 of P1: sets that are answered are new memory, whatever is written there, or into its spare room.
func TestNewMemory(t *testing.T) {
	l := []int{1, 70, 4095, -1, 4096}
	for name, call := range sets() {
		for _, x := range samples() {
			for _, y := range samples() {
				a, roomA := roomy(x)
				b, roomB := roomy(y)
				wantA, wantB := slices.Clone(roomA), slices.Clone(roomB)
				first := call(a, b, l)
				want := slices.Clone(first)
				second := call(a, b, l)
				spoilt := second[:cap(second)]
				for i := range spoilt {
					spoilt[i] = 9
				}
				if !slices.Equal(roomA, wantA) || !slices.Equal(roomB, wantB) {
					t.Errorf("%s of %v and %v answers memory of theirs", name, x, y)
				}
				if !slices.Equal(first, want) || !slices.Equal(call(a, b, l), want) {
					t.Errorf("%s of %v and %v answers memory that it answered before", name, x, y)
				}
			}
		}
	}
}

// P2.1, and rule 5 of P1: what is handed in stays as it was, its spare room too, also where no set is answered.
func TestUnchanged(t *testing.T) {
	numbers := []int{70, 1, 4095, 1, -1, 4096, 5, 6}
	l, wantL := numbers[:6], slices.Clone(numbers)
	for _, x := range samples() {
		for _, y := range samples() {
			a, roomA := roomy(x)
			b, roomB := roomy(y)
			wantA, wantB := slices.Clone(roomA), slices.Clone(roomB)
			both := [][]uint64{a, b, {5}}
			for _, call := range sets() {
				call(a, b, l)
			}
			bitset.Join(both[:2]...)
			bitset.Has(a, 70)
			bitset.List(a)
			bitset.Count(a)
			bitset.Same(a, b)
			bitset.Holds(a, b)
			if !slices.Equal(roomA, wantA) || !slices.Equal(roomB, wantB) {
				t.Errorf("%v and %v are changed", x, y)
			}
			if !slices.Equal(both[0], x) || !slices.Equal(both[1], y) || !slices.Equal(both[2], []uint64{5}) {
				t.Errorf("the list of %v and %v is changed", x, y)
			}
		}
	}
	if !slices.Equal(numbers, wantL) {
		t.Errorf("numbers that are handed in are changed to %v", numbers)
	}
}

// P1, rule 5: a list of numbers that was answered isn't changed later.
func TestListStays(t *testing.T) {
	s := []uint64{6, 1}
	first := bitset.List(s)
	second := bitset.List(s)
	second[0] = 99
	s[0] = 0
	if want := []int{1, 2, 64}; !slices.Equal(first, want) {
		t.Errorf("the list became %v", first)
	}
}
