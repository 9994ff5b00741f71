package probe_test

import (
	"math"
	"slices"
	"testing"

	"columbarium/api"
	"columbarium/probe"
)

// cells, as each of them is told in the tests: an ID and its home; none is an empty one.
type cells = []probe.Cell

// none is an empty cell.
var none = probe.Cell{}

// behind is how much room lies behind each argument.
const behind = 3

// roomy answers a copy of a table, with cells behind its end.
func roomy(l cells) cells {
	b := make(cells, len(l)+behind)
	copy(b, l)
	for i := range behind {
		b[len(l)+i] = probe.Cell{ID: 1000 + uint32(i), Home: i}
	}
	return b[:len(l)]
}

// unchanged tells whether a table of roomy is as it was made of another one, and so is what lies behind it.
func unchanged(l cells, of cells) bool {
	return slices.Equal(l[:cap(l)][:len(l)+behind], roomy(of)[:len(of)+behind])
}

// numbers answers a function that answers numbers below n, the same ones at each start.
func numbers(seed uint64) func(n int) int {
	return func(n int) int {
		seed = seed*6364136223846793005 + 1442695040888963407
		return int(seed>>33) % n
	}
}

// outside are numbers of none of n positions; some are numbers of them once their high bits are lost.
func outside(n int) []int {
	l := []int{-1, -n, -n - 1, n, n + 1, 2 * n, math.MinInt, math.MaxInt, math.MinInt + n, math.MaxInt - n}
	for bit := 24; bit < 63; bit++ {
		l = append(l, 1<<bit, 1<<bit+1, -1<<bit, -1<<bit+1)
	}
	return slices.DeleteFunc(l, func(i int) bool { return i >= 0 && i < n })
}

// every visits all tables of n cells that are among some.
func every(n int, among cells, f func(l cells)) {
	l := make(cells, n)
	var fill func(at int)
	fill = func(at int) {
		if at == n {
			f(l)
			return
		}
		for _, c := range among {
			l[at] = c
			fill(at + 1)
		}
	}
	fill(0)
}

// everySmall visits all tables of up to three cells with IDs and homes that are right and wrong, and those of four with fewer of them.
func everySmall(f func(l cells)) {
	for n := range 5 {
		var among cells
		for id := range uint32(4) {
			for home := -1; home <= n; home++ {
				if n < 4 || id < 3 && home >= 0 && home < n {
					among = append(among, probe.Cell{ID: id, Home: home})
				}
			}
		}
		every(n, among, f)
	}
}

// ids are those of the tables of everyValid, by their positions; the high bits of one, and the low bits of another one, are as of 0.
var ids = [...]uint32{7, 1 << 31, 3, math.MaxUint32, 1 << 16, 5}

// stranger is an ID that no table of everyValid has.
const stranger = 1<<31 + 7

// everyValid visits all valid tables of one to six cells, but for what their IDs are.
func everyValid(f func(l cells)) {
	for n := 1; n <= len(ids); n++ {
		among := cells{none}
		for home := range n {
			among = append(among, probe.Cell{ID: 1, Home: home})
		}
		every(n, among, func(l cells) {
			t := slices.Clone(l)
			for i := range t {
				if t[i] != none {
					t[i].ID = ids[i]
				}
			}
			if valid(t) {
				f(t)
			}
		})
	}
}

// steps counts the steps from home to a position.
func steps(n int, home int, at int) int {
	d := 0
	for home != at {
		home, d = (home+1)%n, d+1
	}
	return d
}

// valid tells whether a table is, part by part as the chapter has it.
func valid(l cells) bool {
	n := len(l)
	if n == 0 {
		return false
	}
	for _, c := range l {
		if c.Home < 0 || c.Home >= n || c.ID == 0 && c.Home != 0 {
			return false
		}
	}
	for i, c := range l {
		if c.ID == 0 {
			continue
		}
		for j := range i {
			if l[j].ID == c.ID {
				return false
			}
		}
		if d, before := steps(n, c.Home, i), (i+n-1)%n; d > 0 {
			if l[before].ID == 0 || steps(n, l[before].Home, before) < d-1 {
				return false
			}
		}
	}
	return true
}

// place answers the first position from home on that is open for it, of a table with an empty cell.
func place(l cells, home int) int {
	for at, d := home, 0; ; at, d = (at+1)%len(l), d+1 {
		if l[at].ID == 0 || steps(len(l), l[at].Home, at) < d {
			return at
		}
	}
}

// from answers a table from a position on: what was ahead of it comes last.
func from(l cells, at int) cells { return slices.Concat(l[at:], l[:at]) }

// insert is Insert, where that has no error: the row from the place on gets the cell at its begin, and loses its first empty one.
func insert(l cells, id uint32, home int) cells {
	at := place(l, home)
	row := from(l, at)
	hole := slices.Index(row, none)
	row = slices.Insert(slices.Delete(row, hole, hole+1), 0, probe.Cell{ID: id, Home: home})
	return from(row, (len(l)-at)%len(l))
}

// remove is Delete of the cell at a position: the row from there on loses it, and has an empty one where no cell moves any more.
func remove(l cells, at int) cells {
	row := from(l, at)
	stop := 1
	for stop < len(row) && row[stop].ID != 0 && row[stop].Home != (at+stop)%len(row) {
		stop++
	}
	row = slices.Delete(slices.Insert(row, stop, none), 0, 1)
	return from(row, (len(l)-at)%len(l))
}

// full tells whether no cell of a table is empty.
func full(l cells) bool { return !slices.Contains(l, none) }

// homely tells whether a table has an empty cell, or one at home. One that was made by Insert and Delete has.
func homely(l cells) bool {
	for i, c := range l {
		if c.Home == i {
			return true
		}
	}
	return !full(l)
}

// chapter is the table of the chapter's examples.
func chapter(t *testing.T) cells {
	t.Helper()
	l := make(cells, 5)
	for _, c := range (cells{{1, 3}, {2, 3}, {3, 4}, {4, 0}, {5, 3}}) {
		next, e := probe.Insert(l, c.ID, c.Home)
		if e != api.OK {
			t.Fatal("inserted", c, "into", l, next, e)
		}
		l = next
	}
	return l
}

// P19.1 (Distance): rings of up to eight positions, and numbers of none of them.
func TestDistance(t *testing.T) {
	for n := range 9 {
		for home := range n {
			for at := range n {
				if d := probe.Distance(n, home, at); d != steps(n, home, at) {
					t.Error("distance", n, home, at, "is", d)
				}
			}
		}
		for _, x := range outside(n) {
			for _, y := range append(outside(n), 0, n-1) {
				if d := probe.Distance(n, x, y); d != 0 {
					t.Error("distance", n, x, y, "is", d)
				}
				if d := probe.Distance(n, y, x); d != 0 {
					t.Error("distance", n, y, x, "is", d)
				}
			}
		}
	}
}

// P19.1 (Distance): great rings, and rings of fewer positions than none.
func TestDistanceFar(t *testing.T) {
	for _, x := range []struct{ n, home, at, d int }{
		{math.MaxInt, math.MaxInt - 1, 0, 1},
		{math.MaxInt, 1, 0, math.MaxInt - 1},
		{math.MaxInt, 0, math.MaxInt - 1, math.MaxInt - 1},
		{math.MaxInt, math.MaxInt - 1, math.MaxInt - 2, math.MaxInt - 1},
		{math.MaxInt, 7, 7, 0},
		{math.MaxInt, math.MaxInt, 0, 0},
		{math.MaxInt, 0, math.MaxInt, 0},
		{1 << 32, 1<<32 - 1, 1, 2},
		{1 << 32, 3, 1, 1<<32 - 2},
		{-1, 0, 0, 0},
		{-5, -3, -1, 0},
		{-5, -1, -3, 0},
		{-5, 1, 3, 0},
		{math.MinInt, 0, 1, 0},
		{math.MinInt, math.MinInt, -1, 0},
		{0, 0, 0, 0},
		{1, 0, 0, 0},
	} {
		if d := probe.Distance(x.n, x.home, x.at); d != x.d {
			t.Error("distance", x.n, x.home, x.at, "is", d, "not", x.d)
		}
	}
}

// P19.1 (tables, Right): every small table, valid or not.
func TestRight(t *testing.T) {
	count := [2]int{}
	look := func(l cells) {
		arg := roomy(l)
		want := valid(l)
		if probe.Right(arg) != want {
			t.Fatal("right", l, "is", !want)
		}
		if !unchanged(arg, l) {
			t.Fatal("the argument", l, "is", arg)
		}
		count[map[bool]int{true: 1}[want]]++
	}
	everySmall(look)
	everyValid(look)
	if count[0] < 1000 || count[1] < 1000 {
		t.Error("too few tables", count)
	}
}

// P19.1 (tables, Right): what a table must be, each part on its own.
func TestRightExamples(t *testing.T) {
	for _, x := range []struct {
		l     cells
		right bool
	}{
		{nil, false},
		{cells{}, false},
		{cells{none}, true},
		{cells{{9, 0}}, true},
		{cells{{9, 1}}, false},
		{cells{{9, -1}}, false},
		{make(cells, 224), true},
		// An empty cell has the home 0.
		{cells{{0, 1}, none}, false},
		{cells{none, {0, 1}}, false},
		{cells{none, {0, -1}}, false},
		{cells{none, {0, 2}}, false},
		{cells{none, {0, math.MinInt}}, false},
		// An ID is there once, whatever its homes are.
		{cells{{7, 0}, {7, 1}}, false},
		{cells{{7, 0}, {7, 0}}, false},
		{cells{{7, 0}, none, {7, 2}}, false},
		{cells{{7, 0}, {8, 1}, {7, 2}}, false},
		{cells{{7, 0}, {7 + 1<<16, 1}, {7 + 1<<31, 2}, {7 + 1<<8, 3}}, true},
		// Homes outside, beside cells that are well placed.
		{cells{{7, 0}, {8, 2}}, false},
		{cells{{7, 0}, {8, -1}}, false},
		{cells{{7, 2}, none}, false},
		{cells{{7, 1 << 32}, none}, false},
		{cells{{7, math.MaxInt}, {8, math.MinInt}}, false},
		// Who is not at home follows a cell that is as far from its home, but for one step.
		{cells{none, {1, 0}, none}, false},
		{cells{{1, 0}, {2, 0}, {3, 0}}, true},
		{cells{{1, 0}, {2, 1}, {3, 0}}, false},
		{cells{{1, 0}, {2, 1}, {3, 1}}, true},
		{cells{{1, 0}, {2, 0}, {3, 2}, {4, 1}}, false},
		{cells{{1, 0}, {2, 0}, {3, 1}, {4, 1}}, true},
		{cells{{1, 0}, {2, 0}, {3, 0}, {4, 3}}, true},
		// Round the end.
		{cells{{1, 2}, none, {2, 2}}, true},
		{cells{{1, 2}, none, none}, false},
		{cells{{1, 1}, none, {2, 1}}, false},
		{cells{{1, 1}, {2, 1}, {3, 1}}, true},
		{cells{{1, 1}, {2, 1}, {3, 2}}, false},
		// Nobody is at home.
		{cells{{1, 1}, {2, 0}}, true},
		{cells{{1, 1}, {2, 2}, {3, 0}}, true},
		{cells{{1, 2}, {2, 0}, {3, 1}}, true},
		{cells{{1, 1}, {2, 0}, {3, 1}}, true},
		{cells{{1, 1}, {2, 0}, {3, 1}, {4, 2}}, false},
	} {
		if probe.Right(x.l) != x.right {
			t.Error("right", x.l, "is", !x.right)
		}
	}
}

// P19.2 (Find): each cell of every valid table is where it lies, and is found with its own ID and home alone.
func TestFind(t *testing.T) {
	everyValid(func(l cells) {
		arg := roomy(l)
		for home := -1; home <= len(l); home++ {
			for _, id := range append(ids[:len(l):len(l)], 0, stranger, 1000) {
				want := slices.Index(l, probe.Cell{ID: id, Home: home})
				if id == 0 {
					want = -1
				}
				if at, ok := probe.Find(arg, id, home); ok != (want >= 0) || at != max(want, 0) {
					t.Fatal("found", id, home, "in", l, at, ok, "not", want)
				}
			}
		}
		if !unchanged(arg, l) {
			t.Fatal("the argument", l, "is", arg)
		}
	})
}

// P19.2 (Find, Longest): in tables that are not valid nothing is found, and no distance is the greatest.
func TestFindInvalid(t *testing.T) {
	everySmall(func(l cells) {
		if valid(l) {
			return
		}
		for id := range uint32(4) {
			for home := -1; home <= len(l); home++ {
				if at, ok := probe.Find(l, id, home); at != 0 || ok {
					t.Fatal("found", id, home, "in", l, at, ok)
				}
			}
		}
		if d := probe.Longest(l); d != 0 {
			t.Fatal("longest of", l, "is", d)
		}
	})
}

// P19.2 (Find): the example of the chapter, and its edges.
func TestFindExamples(t *testing.T) {
	l := chapter(t)
	for _, x := range []struct {
		id   uint32
		home int
		at   int
		ok   bool
	}{
		{4, 0, 2, true},
		{1, 3, 3, true},
		{2, 3, 4, true},
		{5, 3, 0, true},
		{3, 4, 1, true},
		{4, 1, 0, false},
		{3, 3, 0, false},
		{6, 0, 0, false},
		{0, 0, 0, false},
		{4, -5, 0, false},
		{4, 5, 0, false},
		{4 + 1<<31, 0, 0, false},
	} {
		if at, ok := probe.Find(l, x.id, x.home); at != x.at || ok != x.ok {
			t.Error("found", x.id, x.home, at, ok)
		}
	}
	for _, home := range outside(5) {
		if at, ok := probe.Find(l, 1, home); at != 0 || ok {
			t.Error("found at home", home, at, ok)
		}
	}
	if at, ok := probe.Find(cells{none, none}, 0, 0); at != 0 || ok {
		t.Error("found an empty cell", at, ok)
	}
	if at, ok := probe.Find(nil, 1, 0); at != 0 || ok {
		t.Error("found in no cells", at, ok)
	}
}

// P19.2 (Longest): every valid table.
func TestLongest(t *testing.T) {
	everyValid(func(l cells) {
		want := 0
		for i, c := range l {
			if c != none {
				want = max(want, steps(len(l), c.Home, i))
			}
		}
		arg := roomy(l)
		if d := probe.Longest(arg); d != want || !unchanged(arg, l) {
			t.Fatal("longest of", l, "is", d, "not", want)
		}
	})
}

// P19.2 (Longest): the example of the chapter, and its edges.
func TestLongestExamples(t *testing.T) {
	if d := probe.Longest(chapter(t)); d != 2 {
		t.Error("the table of the chapter", d)
	}
	for _, x := range []struct {
		l cells
		d int
	}{
		{nil, 0},
		{make(cells, 9), 0},
		{cells{none, none, {7, 2}}, 0},
		{cells{{8, 2}, none, {7, 2}}, 1},
		{cells{{8, 1}, none, {7, 2}}, 0},
		{cells{{9, 3}, none, none, none, none, {7, 3}, {8, 3}}, 0},
		{cells{{10, 4}, {11, 4}, none, none, {7, 4}, {8, 4}, {9, 4}}, 4},
		{cells{{1, 1}, {2, 1}, {3, 1}}, 2},
	} {
		if d := probe.Longest(x.l); d != x.d {
			t.Error("longest of", x.l, "is", d)
		}
	}
}

// P19.3 (Insert): every valid table with an empty cell, and each home.
func TestInsert(t *testing.T) {
	everyValid(func(l cells) {
		for home := range l {
			arg := roomy(l)
			got, e := probe.Insert(arg, stranger, home)
			if !unchanged(arg, l) {
				t.Fatal("the argument", l, "is", arg)
			}
			if full(l) {
				if e != api.ErrFull || len(got) != 0 {
					t.Fatal("inserted into", l, got, e)
				}
				continue
			}
			if e != api.OK || !slices.Equal(got, insert(l, stranger, home)) {
				t.Fatal("inserted", home, "into", l, got, e, "not", insert(l, stranger, home))
			}
		}
	})
}

// P19.3 (Insert): the examples of the chapter, and who moves.
func TestInsertExamples(t *testing.T) {
	for _, x := range []struct {
		l    cells
		id   uint32
		home int
		want cells
	}{
		{cells{none}, 9, 0, cells{{9, 0}}},
		{cells{none, none}, math.MaxUint32, 1, cells{none, {math.MaxUint32, 1}}},
		// Who is as far from home as the new one stays, who is less far moves.
		{cells{{1, 0}, none, none}, 9, 0, cells{{1, 0}, {9, 0}, none}},
		{cells{{1, 0}, {2, 1}, none}, 9, 0, cells{{1, 0}, {9, 0}, {2, 1}}},
		{cells{{1, 0}, {2, 0}, none}, 9, 1, cells{{1, 0}, {2, 0}, {9, 1}}},
		// Those that move keep their order, though their distances are equal then.
		{cells{{1, 0}, {2, 1}, {3, 1}, none}, 9, 0, cells{{1, 0}, {9, 0}, {2, 1}, {3, 1}}},
		// They move up to the first empty cell and no further.
		{cells{{1, 0}, {2, 1}, none, {3, 3}, none}, 9, 0, cells{{1, 0}, {9, 0}, {2, 1}, {3, 3}, none}},
		// Round the end.
		{cells{none, none, {1, 2}}, 9, 2, cells{{9, 2}, none, {1, 2}}},
		{cells{{2, 0}, none, {1, 2}}, 9, 2, cells{{9, 2}, {2, 0}, {1, 2}}},
		{cells{none, {1, 1}, {2, 1}}, 9, 2, cells{{9, 2}, {1, 1}, {2, 1}}},
		{cells{none, {1, 1}, {2, 2}}, 9, 1, cells{{2, 2}, {1, 1}, {9, 1}}},
	} {
		if got, e := probe.Insert(x.l, x.id, x.home); e != api.OK || !slices.Equal(got, x.want) {
			t.Error("inserted", x.id, x.home, "into", x.l, got, e)
		}
	}
	l := chapter(t)
	if !slices.Equal(l, cells{{5, 3}, {3, 4}, {4, 0}, {1, 3}, {2, 3}}) {
		t.Error("the table of the chapter", l)
	}
	if got, e := probe.Insert(l, 6, 0); len(got) != 0 || e != api.ErrFull {
		t.Error("a sixth one", got, e)
	}
	if got, e := probe.Insert(l, 4, 1); len(got) != 0 || e != api.ErrState {
		t.Error("another home", got, e)
	}
}

// P19.3 (Delete): each cell of every valid table.
func TestDelete(t *testing.T) {
	everyValid(func(l cells) {
		for at, c := range l {
			if c == none {
				continue
			}
			arg := roomy(l)
			got, e := probe.Delete(arg, c.ID, c.Home)
			if !unchanged(arg, l) {
				t.Fatal("the argument", l, "is", arg)
			}
			if e != api.OK || !slices.Equal(got, remove(l, at)) {
				t.Fatal("deleted", c, "from", l, got, e, "not", remove(l, at))
			}
		}
	})
}

// P19.3 (Delete): the examples of the chapter, and who moves.
func TestDeleteExamples(t *testing.T) {
	for _, x := range []struct {
		l    cells
		id   uint32
		home int
		want cells
	}{
		{chapter(t), 2, 3, cells{{3, 4}, {4, 0}, none, {1, 3}, {5, 3}}},
		{cells{none, {7, 1}, {8, 1}, {9, 2}}, 7, 1, cells{none, {8, 1}, {9, 2}, none}},
		{cells{{9, 0}}, 9, 0, cells{none}},
		{cells{none, {9, 1}}, 9, 1, cells{none, none}},
		// Up to the first one that is at home, or empty.
		{cells{{1, 0}, {2, 0}, {3, 2}, {4, 2}}, 1, 0, cells{{2, 0}, none, {3, 2}, {4, 2}}},
		{cells{{1, 0}, {2, 0}, none, {4, 3}}, 1, 0, cells{{2, 0}, none, none, {4, 3}}},
		{cells{{1, 0}, {2, 1}}, 1, 0, cells{none, {2, 1}}},
		// Round the end.
		{cells{{2, 2}, {3, 2}, {1, 2}}, 1, 2, cells{{3, 2}, none, {2, 2}}},
		{cells{{2, 2}, {3, 2}, {1, 2}}, 2, 2, cells{{3, 2}, none, {1, 2}}},
		// Nobody is at home: all the others move once.
		{cells{{1, 1}, {2, 0}}, 1, 1, cells{{2, 0}, none}},
		{cells{{1, 1}, {2, 0}}, 2, 0, cells{none, {1, 1}}},
		{cells{{1, 2}, {2, 0}, {3, 1}}, 2, 0, cells{none, {3, 1}, {1, 2}}},
		{cells{{1, 1}, {2, 2}, {3, 0}}, 1, 1, cells{{2, 2}, {3, 0}, none}},
	} {
		if got, e := probe.Delete(x.l, x.id, x.home); e != api.OK || !slices.Equal(got, x.want) {
			t.Error("deleted", x.id, x.home, "from", x.l, got, e)
		}
	}
	for _, c := range (cells{{4, 1}, {6, 0}, {4 + 1<<31, 0}, {1, 4}}) {
		if got, e := probe.Delete(chapter(t), c.ID, c.Home); len(got) != 0 || e != api.ErrNone {
			t.Error("deleted", c, got, e)
		}
	}
}

// P19.3 (Insert): the example at the end of the chapter.
func TestFourCells(t *testing.T) {
	l := make(cells, 4)
	for _, c := range (cells{{7, 1}, {8, 1}, {9, 2}}) {
		next, e := probe.Insert(l, c.ID, c.Home)
		if e != api.OK {
			t.Fatal("inserted", c, e)
		}
		l = next
	}
	if !slices.Equal(l, cells{none, {7, 1}, {8, 1}, {9, 2}}) {
		t.Error("inserted", l)
	}
	if l, e := probe.Delete(l, 7, 1); e != api.OK || !slices.Equal(l, cells{none, {8, 1}, {9, 2}, none}) {
		t.Error("deleted", l, e)
	}
}

// mistake answers the first error that Insert or Delete must tell of an ID, a home and a table; OK if it is not one of both.
func mistake(l cells, id uint32, home int) api.Errno {
	switch {
	case id == 0 || home < 0 || home >= len(l):
		return api.ErrArg
	case !valid(l):
		return api.ErrForm
	}
	return api.OK
}

// P19.3: the errors, in their order, of every small table.
func TestErrors(t *testing.T) {
	everySmall(func(l cells) {
		for id := range uint32(5) {
			for home := -1; home <= len(l); home++ {
				in := mistake(l, id, home)
				out := in
				if in == api.OK && slices.ContainsFunc(l, func(c probe.Cell) bool { return c.ID == id }) {
					in = api.ErrState
				} else if in == api.OK && full(l) {
					in = api.ErrFull
				}
				if out == api.OK && !slices.Contains(l, probe.Cell{ID: id, Home: home}) {
					out = api.ErrNone
				}
				if got, e := probe.Insert(l, id, home); e != in || (len(got) == 0) != (e != api.OK) {
					t.Fatal("inserted", id, home, "into", l, got, e, "not", in)
				}
				if got, e := probe.Delete(l, id, home); e != out || (len(got) == 0) != (e != api.OK) {
					t.Fatal("deleted", id, home, "from", l, got, e, "not", out)
				}
			}
		}
	})
}

// P19.3: homes far outside, of tables that are valid and of others, with IDs that are there and others.
func TestErrorsFar(t *testing.T) {
	for _, l := range []cells{nil, {none}, {{1, 0}}, {none, none}, {{1, 0}, {2, 1}}, {{1, 1}, none}, {{0, 1}, none}, {{1, 0}, {1, 1}}} {
		for _, home := range outside(len(l)) {
			for id := range uint32(4) {
				if got, e := probe.Insert(l, id, home); len(got) != 0 || e != api.ErrArg {
					t.Error("inserted", id, home, "into", l, got, e)
				}
				if got, e := probe.Delete(l, id, home); len(got) != 0 || e != api.ErrArg {
					t.Error("deleted", id, home, "from", l, got, e)
				}
			}
		}
	}
}

// P19.3: what Insert and Delete answer is new memory.
func TestNew(t *testing.T) {
	l := cells{{1, 0}, none, none, {2, 3}}
	arg := roomy(l)
	spoil := func(x cells) {
		for i := range x {
			x[i] = probe.Cell{ID: 99, Home: 99}
		}
		_ = append(x, none, none, none)
	}
	first, _ := probe.Insert(arg, 3, 1)
	second, _ := probe.Insert(arg, 3, 1)
	spoil(first)
	if !unchanged(arg, l) || !slices.Equal(second, cells{{1, 0}, {3, 1}, none, {2, 3}}) {
		t.Error("shared by Insert", arg, second)
	}
	first, _ = probe.Delete(arg, 2, 3)
	second, _ = probe.Delete(arg, 2, 3)
	spoil(first)
	if !unchanged(arg, l) || !slices.Equal(second, cells{{1, 0}, none, none, none}) {
		t.Error("shared by Delete", arg, second)
	}
}

// P19.4: what is inserted into every valid table is found, and so is what was there, and nothing else; deleting it restores the table.
func TestInserted(t *testing.T) {
	everyValid(func(l cells) {
		for home := range l {
			got, e := probe.Insert(l, stranger, home)
			if e != api.OK {
				continue
			}
			if !probe.Right(got) {
				t.Fatal("inserted", home, "into", l, got)
			}
			for _, id := range append(ids[:len(l):len(l)], stranger) {
				for h := range l {
					c := probe.Cell{ID: id, Home: h}
					there := slices.Contains(l, c) || id == stranger && h == home
					if at, ok := probe.Find(got, id, h); ok != there || ok && got[at] != c {
						t.Fatal("found", c, "in", got, at, ok)
					}
				}
			}
			if back, e := probe.Delete(got, stranger, home); e != api.OK || !slices.Equal(back, l) {
				t.Fatal("of", l, "came", got, "and of that", back, e)
			}
		}
	})
}

// P19.4: what is deleted is not found, all else is. Tables where all are away from home are left out: Insert makes none, and Delete moves no cell twice.
func TestDeleted(t *testing.T) {
	everyValid(func(l cells) {
		for _, c := range l {
			if c == none || !homely(l) {
				continue
			}
			got, e := probe.Delete(l, c.ID, c.Home)
			if e != api.OK || !probe.Right(got) {
				t.Fatal("deleted", c, "from", l, got, e)
			}
			for _, x := range l {
				if _, ok := probe.Find(got, x.ID, x.Home); x != none && ok != (x != c) {
					t.Fatal("found", x, "in", got, ok)
				}
			}
		}
	})
}

// P19.4: cells come and go in tables of many sizes, full at times, held against the steps of the model.
func TestComeAndGo(t *testing.T) {
	next := numbers(19)
	for _, n := range []int{1, 2, 7, 31, 224} {
		l := make(cells, n)
		var in cells
		for i := range 1500 {
			var e api.Errno
			var want cells
			if len(in) < n && (len(in) == 0 || next(5) > 0) {
				// Few homes, so that cells crowd, round the end too.
				c := probe.Cell{ID: uint32(i + 1), Home: (n - 1 + next(n)*next(n)/n) % n}
				want = insert(l, c.ID, c.Home)
				l, e = probe.Insert(l, c.ID, c.Home)
				in = append(in, c)
			} else {
				k := next(len(in))
				want = remove(l, slices.Index(l, in[k]))
				l, e = probe.Delete(l, in[k].ID, in[k].Home)
				in = slices.Delete(in, k, k+1)
			}
			if e != api.OK || !slices.Equal(l, want) || !probe.Right(l) {
				t.Fatal("step", i, "of", n, e, l, "not", want)
			}
			if i%50 > 0 {
				continue
			}
			for _, c := range in {
				if at, ok := probe.Find(l, c.ID, c.Home); !ok || l[at] != c {
					t.Fatal("found", c, at, ok)
				}
			}
		}
	}
}

// R1: a great table whose cells all have one home.
func TestMany(t *testing.T) {
	const n, home = 1 << 20, 1<<20 - 5
	l := make(cells, n)
	for i := range n - 1 {
		l[(home+i)%n] = probe.Cell{ID: uint32(i + 1), Home: home}
	}
	if d := probe.Longest(l); d != n-2 || !probe.Right(l) {
		t.Fatal("longest", d)
	}
	if at, ok := probe.Find(l, n-1, home); at != (home+n-2)%n || !ok {
		t.Error("the last one", at, ok)
	}
	x, e := probe.Insert(l, n, home)
	if e != api.OK || x[(home+n-1)%n] != (probe.Cell{ID: n, Home: home}) {
		t.Fatal("inserted", e)
	}
	if _, e := probe.Insert(x, n+1, home); e != api.ErrFull {
		t.Error("one too many", e)
	}
	if x, e = probe.Delete(x, 1, home); e != api.OK || x[home].ID != 2 || x[home-1] != none || x[home-2].ID != n {
		t.Error("deleted the first one", e)
	}
}
