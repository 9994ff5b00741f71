package chance_test

import (
	"math"
	"slices"
	"testing"

	"columbarium/api"
	"columbarium/chance"
)

// behind is how much room lies behind each argument.
const behind = 9

// roomy answers a copy of a list, with elements that are all set behind its end.
func roomy(l []bool) []bool {
	b := make([]bool, len(l)+behind)
	copy(b, l)
	for i := range behind {
		b[len(l)+i] = true
	}
	return b[:len(l)]
}

// unchanged tells whether a list of roomy is as it was made of another one, and so is what lies behind it.
func unchanged(l []bool, of []bool) bool {
	return slices.Equal(l[:cap(l)][:len(l)+behind], roomy(of)[:len(of)+behind])
}

// bits answers n elements, of which those are set whose bits are.
func bits(n int, set int) []bool {
	l := make([]bool, n)
	for i := range l {
		l[i] = set>>i&1 == 1
	}
	return l
}

// numbers answers a function that answers numbers below n, the same ones at each start.
func numbers(seed uint64) func(n int) int {
	return func(n int) int {
		seed = seed*6364136223846793005 + 1442695040888963407
		return int(seed>>33) % n
	}
}

// everyRing visits all rings of up to five elements, with the hand at each place, and some longer ones.
func everyRing(t *testing.T, f func(used []bool, over []bool, hand int)) {
	t.Helper()
	for n := 1; n <= 5; n++ {
		for set := range 1 << (2 * n) {
			for hand := range n {
				f(bits(n, set), bits(n, set>>n), hand)
			}
		}
	}
	next := numbers(18)
	for range 2000 {
		n := 6 + next(60)
		used, over := make([]bool, n), make([]bool, n)
		for i, seldom := 0, 1+next(9); i < n; i++ {
			used[i], over[i] = next(seldom) == 0, next(10-seldom+1) == 0
		}
		f(used, over, next(n))
	}
}

// model goes round a ring step by step: it answers who goes, what is used then, and how many the hand has passed.
func model(used []bool, over []bool, hand int) (int, []bool, int) {
	after := slices.Clone(used)
	for turns := 0; ; turns++ {
		if over[hand] || !after[hand] {
			return hand, after, turns
		}
		after[hand] = false
		hand = (hand + 1) % len(used)
	}
}

// order takes the elements out of a ring one by one.
func order(used []bool, over []bool, hand int) []int {
	used, over = slices.Clone(used), slices.Clone(over)
	var left, out []int
	for i := range used {
		left = append(left, i)
	}
	for len(left) > 0 {
		hand, used, _ = model(used, over, hand)
		out = append(out, left[hand])
		left, used, over = slices.Delete(left, hand, hand+1), slices.Delete(used, hand, hand+1), slices.Delete(over, hand, hand+1)
		if hand == len(left) {
			hand = 0
		}
	}
	return out
}

// P18.1 (Next, Turns): every small ring, and longer ones, held against the model; the arguments stay as they are, whatever lies behind them.
func TestNext(t *testing.T) {
	everyRing(t, func(used []bool, over []bool, hand int) {
		at, after, turns := model(used, over, hand)
		u, o := roomy(used), roomy(over)
		if k, l, e := chance.Next(u, o, hand); k != at || !slices.Equal(l, after) || e != api.OK {
			t.Fatal("next of", used, over, hand, "is", k, l, e, "not", at, after)
		}
		if n := chance.Turns(u, o, hand); n != turns {
			t.Fatal("turns of", used, over, hand, "are", n, "not", turns)
		}
		if !unchanged(u, used) || !unchanged(o, over) {
			t.Fatal("the arguments", used, over, hand, "are", u, o)
		}
	})
}

// P18.1 (Next, Turns): the examples of the chapter, and its edges.
func TestNextExamples(t *testing.T) {
	for _, x := range []struct {
		used, over []bool
		hand, at   int
		after      []bool
		turns      int
	}{
		{[]bool{true, true, false, true}, make([]bool, 4), 0, 2, []bool{false, false, false, true}, 2},
		{[]bool{true, false, true}, make([]bool, 3), 0, 1, []bool{false, false, true}, 1},
		// Round the end.
		{[]bool{false, true, true}, make([]bool, 3), 1, 0, []bool{false, false, false}, 2},
		{[]bool{true, false, true}, make([]bool, 3), 2, 1, []bool{false, false, false}, 2},
		// All are used and none is over: the hand is back where it was, and that one was passed.
		{[]bool{true, true, true}, make([]bool, 3), 0, 0, make([]bool, 3), 3},
		{[]bool{true, true, true}, make([]bool, 3), 1, 1, make([]bool, 3), 3},
		{[]bool{true, true, true}, make([]bool, 3), 2, 2, make([]bool, 3), 3},
		{[]bool{true}, []bool{false}, 0, 0, []bool{false}, 1},
		{[]bool{false}, []bool{false}, 0, 0, []bool{false}, 0},
		// Who is over goes though it was used, and stays used.
		{[]bool{true}, []bool{true}, 0, 0, []bool{true}, 0},
		{[]bool{true, true, true}, []bool{true, false, false}, 1, 0, []bool{true, false, false}, 2},
		{[]bool{false, true, true}, []bool{false, false, true}, 2, 2, []bool{false, true, true}, 0},
	} {
		if k, l, e := chance.Next(x.used, x.over, x.hand); k != x.at || !slices.Equal(l, x.after) || e != api.OK {
			t.Error("next of", x.used, x.over, x.hand, "is", k, l, e)
		}
		if n := chance.Turns(x.used, x.over, x.hand); n != x.turns {
			t.Error("turns of", x.used, x.over, x.hand, "are", n)
		}
	}
}

// P18.1 (Next): what it answers is new memory.
func TestNextIsNew(t *testing.T) {
	everyRing(t, func(used []bool, over []bool, hand int) {
		u := roomy(used)
		_, l, _ := chance.Next(u, over, hand)
		_, other, _ := chance.Next(u, over, hand)
		for i := range l {
			l[i] = !l[i]
		}
		_ = append(l, false, false, false)
		if _, after, _ := model(used, over, hand); !slices.Equal(other, after) || !unchanged(u, used) {
			t.Fatal("shared memory", used, over, hand)
		}
	})
}

// wrong is what a ring is asked with, and the error.
type wrong struct {
	used, over []bool
	hand       int
	e          api.Errno
}

// wrongs are arguments with errors, which are told in their order.
func wrongs() []wrong {
	l := []wrong{{nil, nil, 0, api.ErrArg}, {[]bool{}, nil, 1, api.ErrArg}, {nil, []bool{}, -1, api.ErrArg}}
	for n := range 4 {
		for m := range 4 {
			for _, hand := range append(outside(n), 0, 1) {
				if n != m {
					l = append(l, wrong{bits(n, -1), bits(m, 0), hand, api.ErrArg})
				}
			}
		}
		for _, hand := range outside(n) {
			if n > 0 {
				l = append(l, wrong{bits(n, 0), bits(n, 0), hand, api.ErrRange}, wrong{bits(n, -1), bits(n, -1), hand, api.ErrRange})
			}
		}
	}
	return l
}

// outside are numbers of none of n elements; some are numbers of them once their high bits are lost.
func outside(n int) []int {
	l := []int{-1, -n, -n - 1, n, n + 1, 2 * n, math.MinInt, math.MaxInt, math.MinInt + n, math.MaxInt - n}
	for bit := 24; bit < 63; bit++ {
		l = append(l, 1<<bit, 1<<bit+1, -1<<bit, -1<<bit+1)
	}
	return slices.DeleteFunc(l, func(i int) bool { return i >= 0 && i < n })
}

// P18.1, P18.2: the errors of Next, Turns and Order.
func TestErrors(t *testing.T) {
	for _, x := range wrongs() {
		if k, l, e := chance.Next(x.used, x.over, x.hand); k != 0 || len(l) != 0 || e != x.e {
			t.Error("next of", x.used, x.over, x.hand, "is", k, l, e, "not", x.e)
		}
		if n := chance.Turns(x.used, x.over, x.hand); n != 0 {
			t.Error("turns of", x.used, x.over, x.hand, "are", n)
		}
		if l, e := chance.Order(x.used, x.over, x.hand); len(l) != 0 || e != x.e {
			t.Error("order of", x.used, x.over, x.hand, "is", l, e, "not", x.e)
		}
	}
}

// P18.2 (Order): every small ring, and longer ones, held against taking one out after the other.
func TestOrder(t *testing.T) {
	everyRing(t, func(used []bool, over []bool, hand int) {
		u, o := roomy(used), roomy(over)
		if l, e := chance.Order(u, o, hand); e != api.OK || !slices.Equal(l, order(used, over, hand)) {
			t.Fatal("order of", used, over, hand, "is", l, e, "not", order(used, over, hand))
		}
		if !unchanged(u, used) || !unchanged(o, over) {
			t.Fatal("the arguments", used, over, hand, "are", u, o)
		}
	})
}

// P18.2 (Order): the first one is that of Next, and the others go as they would of a ring without it.
func TestOrderIsNext(t *testing.T) {
	everyRing(t, func(used []bool, over []bool, hand int) {
		l, _ := chance.Order(used, over, hand)
		k, after, _ := chance.Next(used, over, hand)
		if l[0] != k {
			t.Fatal("order of", used, over, hand, "is", l, "but", k, "goes")
		}
		if len(l) == 1 {
			return
		}
		rest := slices.Delete(slices.Clone(over), k, k+1)
		others, e := chance.Order(slices.Delete(after, k, k+1), rest, k%len(rest))
		for i := range others {
			if others[i] >= k {
				others[i]++
			}
		}
		if e != api.OK || !slices.Equal(l[1:], others) {
			t.Fatal("order of", used, over, hand, "is", l, "but then", others, e)
		}
	})
}

// P18.2 (Order): the examples of the chapter, and its edges.
func TestOrderExamples(t *testing.T) {
	for _, x := range []struct {
		used, over []bool
		hand       int
		order      []int
	}{
		{[]bool{true, true, false, true}, make([]bool, 4), 3, []int{2, 3, 0, 1}},
		{[]bool{true, true, false, true}, make([]bool, 4), 0, []int{2, 0, 1, 3}},
		{[]bool{true, false, true}, make([]bool, 3), 0, []int{1, 0, 2}},
		{make([]bool, 4), make([]bool, 4), 2, []int{2, 3, 0, 1}},
		{bits(4, -1), make([]bool, 4), 2, []int{2, 3, 0, 1}},
		{bits(4, -1), bits(4, -1), 1, []int{1, 2, 3, 0}},
		{bits(4, -1), []bool{true, false, false, false}, 1, []int{0, 1, 2, 3}},
		{[]bool{true}, []bool{false}, 0, []int{0}},
	} {
		if l, e := chance.Order(x.used, x.over, x.hand); e != api.OK || !slices.Equal(l, x.order) {
			t.Error("order of", x.used, x.over, x.hand, "is", l, e)
		}
	}
	if l, e := chance.Order([]bool{true, true, false, true}, make([]bool, 4), 4); len(l) != 0 || e != api.ErrRange {
		t.Error("a hand at no element", l, e)
	}
}

// swept examines elements one by one.
func swept(over []bool, at int, most int) ([]int, int) {
	var l []int
	for i := 0; i < most && i < len(over); i++ {
		if over[at] {
			l = append(l, at)
		}
		at = (at + 1) % len(over)
	}
	return l, at
}

// P18.3 (Broom): every small ring, from each place, with each number of elements, and far more than there are.
func TestBroom(t *testing.T) {
	everyRing(t, func(_ []bool, over []bool, at int) {
		for _, most := range []int{0, 1, 2, 3, len(over) - 1, len(over), len(over) + 1, 2 * len(over), 3*len(over) + 1, 1 << 32, math.MaxInt - 1, math.MaxInt} {
			o := roomy(over)
			want, next := swept(over, at, most)
			if l, k, e := chance.Broom(o, at, most); e != api.OK || k != next || !slices.Equal(l, want) {
				t.Fatal("broom of", over, at, most, "is", l, k, e, "not", want, next)
			}
			if !unchanged(o, over) {
				t.Fatal("the argument", over, "is", o)
			}
		}
	})
}

// P18.3 (Broom): the example of the chapter, and its edges.
func TestBroomExamples(t *testing.T) {
	over := []bool{true, false, true}
	for _, x := range []struct {
		at, most int
		l        []int
		next     int
	}{
		{2, 9, []int{2, 0}, 2},
		{2, 1, []int{2}, 0},
		{2, 2, []int{2, 0}, 1},
		{0, 3, []int{0, 2}, 0},
		{1, 1, nil, 2},
		{1, 0, nil, 1},
		{2, 0, nil, 2},
		{2, math.MaxInt, []int{2, 0}, 2},
	} {
		if l, next, e := chance.Broom(over, x.at, x.most); e != api.OK || next != x.next || !slices.Equal(l, x.l) {
			t.Error("broom at", x.at, x.most, "is", l, next, e)
		}
	}
	if l, next, e := chance.Broom(over, 2, -1); len(l) != 0 || next != 0 || e != api.ErrArg {
		t.Error("fewer than none", l, next, e)
	}
}

// P18.3 (Broom): the errors, in their order.
func TestBroomErrors(t *testing.T) {
	for n := range 4 {
		for _, at := range append(outside(n), 0, 1, 2) {
			for _, most := range []int{0, 1, 9, math.MaxInt, -1, -n, -9, math.MinInt} {
				want := api.OK
				switch {
				case n == 0:
					want = api.ErrArg
				case at < 0 || at >= n:
					want = api.ErrRange
				case most < 0:
					want = api.ErrArg
				}
				l, next, e := chance.Broom(bits(n, -1), at, most)
				if e != want || e != api.OK && (len(l) != 0 || next != 0) {
					t.Error("broom of", n, at, most, "is", l, next, e, "not", want)
				}
			}
		}
	}
	if l, next, e := chance.Broom(nil, -1, -1); len(l) != 0 || next != 0 || e != api.ErrArg {
		t.Error("broom of nothing", l, next, e)
	}
}

// P18.4: the hand passes no element twice, but for the one that it selects.
func TestPassedOnce(t *testing.T) {
	everyRing(t, func(used []bool, over []bool, hand int) {
		n := len(used)
		k, l, _ := chance.Next(used, over, hand)
		turns := chance.Turns(used, over, hand)
		if turns < 0 || turns > n || (hand+turns)%n != k || turns == n && k != hand {
			t.Fatal("turns of", used, over, hand, "are", turns, "to", k)
		}
		for i := range n {
			passed := (i-hand+n)%n < turns
			if passed && (!used[i] || over[i] || l[i]) || !passed && l[i] != used[i] {
				t.Fatal("next of", used, over, hand, "passed", i, l)
			}
		}
	})
}

// P18.4: Order has every element once; if none is over, who is used comes after all who are not.
func TestEveryOne(t *testing.T) {
	everyRing(t, func(used []bool, over []bool, hand int) {
		l, _ := chance.Order(used, over, hand)
		sorted := slices.Clone(l)
		slices.Sort(sorted)
		for i, k := range sorted {
			if len(sorted) != len(used) || k != i {
				t.Fatal("order of", used, over, hand, "is", l)
			}
		}
		l, _ = chance.Order(used, make([]bool, len(used)), hand)
		if first := slices.IndexFunc(l, func(i int) bool { return used[i] }); first >= 0 {
			for _, i := range l[first:] {
				if !used[i] {
					t.Fatal("order of", used, hand, "is", l, "without one over")
				}
			}
		}
	})
}

// P18.2, R1: a great ring has its order without a round for each of its elements.
func TestMany(t *testing.T) {
	const n = 1 << 22
	used, over := make([]bool, n), make([]bool, n)
	for i := range used {
		used[i], over[i] = i%3 != 0, i%5 == 0
	}
	l, e := chance.Order(used, over, n-1)
	if e != api.OK || len(l) != n {
		t.Fatal("order", len(l), e)
	}
	stays := func(i int) bool { return used[i] && !over[i] }
	if !stays(l[n-1]) || stays(l[0]) {
		t.Error("the first and the last one", l[0], l[n-1])
	}
	for i := 1; i < n; i++ {
		before, after := (l[i-1]+1)%n, (l[i]+1)%n // The hand is at the last element.
		if stays(l[i-1]) && !stays(l[i]) || stays(l[i-1]) == stays(l[i]) && before >= after {
			t.Fatal("element", i, "is", l[i], "after", l[i-1])
		}
	}
	if k, next, e := chance.Broom(over, n-1, math.MaxInt); e != api.OK || next != n-1 || len(k) != (n+4)/5 {
		t.Error("the broom", len(k), next, e)
	}
	if k, _, e := chance.Next(used, make([]bool, n), 1); k != 3 || e != api.OK || chance.Turns(used, over, 1) != 2 {
		t.Error("next", k, e)
	}
}
