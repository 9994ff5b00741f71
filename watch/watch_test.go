package watch_test

import (
	"math"
	"reflect"
	"slices"
	"testing"

	"columbarium/api"
	"columbarium/watch"
)

// most is the greatest size of a watch, and kinds the number of kinds.
const (
	most  = 1048576
	kinds = 9
)

// extremes are ints far beyond a watch's bytes; some are offsets, sizes and kinds that may be once their high bits are lost.
func extremes() []int {
	l := []int{math.MinInt, math.MinInt + 1, math.MinInt + 8, math.MaxInt, math.MaxInt - 3, math.MaxInt - 7, math.MaxInt - 15}
	for bit := 8; bit < 63; bit++ {
		l = append(l, 1<<bit-8, 1<<bit-1, 1<<bit, 1<<bit+1, 1<<bit+5, 1<<bit+8, -1<<bit, -1<<bit+1, -1<<bit+5, -1<<bit+8)
	}
	return l
}

// around are the numbers from -9 to n + 9, and the extremes.
func around(n int) []int {
	l := extremes()
	for i := -9; i <= n+9; i++ {
		l = append(l, i)
	}
	return l
}

// numbers answers a function that answers numbers below n, the same ones at each start.
func numbers(seed uint32) func(n int) int {
	return func(n int) int {
		seed = seed*1664525 + 1013904223
		return int(seed>>8) % n
	}
}

// model is what a watch must be: of each byte its kind.
type model struct {
	kinds  []int
	looks  int
	faults int
}

// inside tells whether n bytes from an offset on exist, each of them held against the ends.
func (m *model) inside(at int, n int) bool {
	size := len(m.kinds)
	if at < 0 || at > size || n < 0 || n > size {
		return false
	}
	for i := range n {
		if at+i >= size {
			return false
		}
	}
	return true
}

// mark is Mark, in the document's order of errors.
func (m *model) mark(at int, n int, kind int) api.Errno {
	switch {
	case kind < 0 || kind > 8:
		return api.ErrArg
	case !m.inside(at, n):
		return api.ErrRange
	case at%4 != 0 || n%4 != 0:
		return api.ErrAlign
	}
	for i := range n {
		m.kinds[at+i] = kind
	}
	return api.OK
}

// kind is Kind: each byte is held against each other.
func (m *model) kind(at int, n int) int {
	if n < 1 || !m.inside(at, n) {
		return 0
	}
	for i := range n {
		for j := range n {
			if m.kinds[at+i] != m.kinds[at+j] {
				return 0
			}
		}
	}
	return m.kinds[at]
}

// look is Look.
func (m *model) look(at int, width int, kind int) bool {
	m.looks++
	right := (width == 1 || width == 2 || width == 4 || width == 8) && at%width == 0 && m.inside(at, width) && kind != 0
	for i := 0; right && i < width; i++ {
		right = m.kinds[at+i] == kind
	}
	if !right {
		m.faults++
	}
	return right
}

// sum is Sum.
func (m *model) sum(kind int) int {
	n := 0
	for _, k := range m.kinds {
		if k == kind {
			n++
		}
	}
	return n
}

// runs is Runs: each byte is added to the last run, or begins a new one.
func (m *model) runs() []api.Run {
	var l []api.Run
	for at, kind := range m.kinds {
		if n := len(l); n > 0 && l[n-1].Kind == kind {
			l[n-1].Len++
		} else {
			l = append(l, api.Run{At: at, Len: 1, Kind: kind})
		}
	}
	return l
}

// pair answers a watch, its model, and a function that marks both.
func pair(t *testing.T, size int) (*watch.Watch, *model, func(at int, n int, kind int)) {
	t.Helper()
	w, m := watch.New(size), &model{kinds: make([]int, size)}
	if w == nil {
		t.Fatal("no watch of", size)
	}
	return w, m, func(at int, n int, kind int) {
		t.Helper()
		if got, want := w.Mark(at, n, kind), m.mark(at, n, kind); got != want {
			t.Fatalf("Mark(%d, %d, %d) of %d bytes = %d; want %d", at, n, kind, size, got, want)
		}
	}
}

// same holds the kinds and the counters of a watch against its model.
func same(t *testing.T, w *watch.Watch, m *model, after ...any) {
	t.Helper()
	for at := range m.kinds {
		if k := w.Kind(at, 1); k != m.kinds[at] {
			t.Fatalf("after %v: byte %d is %d; want %d", after, at, k, m.kinds[at])
		}
	}
	if l := w.Runs(); !slices.Equal(l, m.runs()) {
		t.Fatalf("after %v: runs %v; want %v", after, l, m.runs())
	}
	for kind := -1; kind <= kinds; kind++ {
		if n := w.Sum(kind); n != m.sum(kind) {
			t.Fatalf("after %v: %d bytes of %d; want %d", after, n, kind, m.sum(kind))
		}
	}
	if w.Looks() != m.looks || w.Faults() != m.faults {
		t.Fatalf("after %v: %d looks, %d faults; want %d, %d", after, w.Looks(), w.Faults(), m.looks, m.faults)
	}
}

// striped is a watch of 40 bytes with rows of several kinds and lengths, and its model.
func striped(t *testing.T) (*watch.Watch, *model) {
	t.Helper()
	w, m, mark := pair(t, 40)
	mark(0, 8, api.RegWord)
	mark(8, 4, api.RegLive)
	mark(16, 12, api.RegPad)
	mark(28, 8, api.RegLive)
	mark(36, 4, api.RegRoot)
	return w, m
}

// P11.1: the sizes of watches: all numbers near both ends, and some of those between.
func TestNew(t *testing.T) {
	sizes := map[int]bool{}
	for n := 4; n <= most; n += 4 {
		sizes[n] = true
	}
	asked := append(extremes(), 2*most)
	for n := -100; n <= 2000; n++ {
		asked = append(asked, n, most-1000+n, 511*n)
	}
	for _, n := range asked {
		if w := watch.New(n); (w != nil) != sizes[n] {
			t.Fatal("New", n, w != nil)
		}
	}
}

// P11.1: all bytes of a new watch are of no kind, there are as many as were asked for, and nothing has been counted.
func TestNewIsOfNoKind(t *testing.T) {
	for _, n := range []int{4, 8, 12, 16, 32, 1024, 8304, most - 4, most} {
		w := watch.New(n)
		if w == nil {
			t.Fatal("New", n)
		}
		if l := w.Runs(); !slices.Equal(l, []api.Run{{At: 0, Len: n, Kind: api.RegNone}}) {
			t.Error("runs", n, l)
		}
		if w.Sum(api.RegNone) != n || w.Looks() != 0 || w.Faults() != 0 {
			t.Error("counts", n, w.Sum(api.RegNone), w.Looks(), w.Faults())
		}
		if w.Mark(n-4, 4, api.RegLive) != api.OK || w.Mark(n, 4, api.RegLive) != api.ErrRange {
			t.Error("the end", n)
		}
	}
}

// P11.1: two watches have no byte and no counter together.
func TestWatchesAreIndependent(t *testing.T) {
	var watches []*watch.Watch
	var models []*model
	for i := range 4 {
		w, m, mark := pair(t, 16)
		mark(4*i, 4, 1+i)
		for range i {
			if w.Look(0, 1, api.RegPad) || m.look(0, 1, api.RegPad) || !w.Look(4*i, 4, 1+i) || !m.look(4*i, 4, 1+i) {
				t.Error("looking", i)
			}
		}
		watches, models = append(watches, w), append(models, m)
	}
	for i, w := range watches {
		same(t, w, models[i], "all", i)
	}
}

// P11.1: the examples.
func TestExamplesOfMark(t *testing.T) {
	w := watch.New(32)
	if e := w.Mark(6, 4, 1); e != api.ErrAlign {
		t.Error("Mark(6, 4, 1)", e)
	}
	if e := w.Mark(8, 28, 1); e != api.ErrRange {
		t.Error("Mark(8, 28, 1)", e)
	}
	if e := w.Mark(0, 4, 9); e != api.ErrArg {
		t.Error("Mark(0, 4, 9)", e)
	}
	if l := w.Runs(); !slices.Equal(l, []api.Run{{At: 0, Len: 32}}) {
		t.Error("what was refused has changed it", l)
	}
}

// P11.1, P11.5: Mark at every offset and of every length, of a kind that is there, of another and of none: its errors, and the bytes that are others after it.
func TestMark(t *testing.T) {
	w, m := striped(t)
	for _, at := range around(40) {
		for _, n := range around(40) {
			for _, kind := range []int{api.RegLive, api.RegFree, api.RegNone} {
				got, want := w.Mark(at, n, kind), m.mark(at, n, kind)
				if got != want {
					t.Fatalf("Mark(%d, %d, %d) = %d; want %d", at, n, kind, got, want)
				}
				if got == api.OK {
					same(t, w, m, "Mark", at, n, kind)
					w, m = striped(t)
				}
			}
		}
		same(t, w, m, "Marks that were refused", at)
	}
}

// P11.1: the kinds, each of which takes the place of each other, and those that are none.
func TestMarkTakesKinds(t *testing.T) {
	for _, kind := range around(8) {
		w, m, mark := pair(t, 16)
		mark(4, 8, kind)
		same(t, w, m, "Mark", kind)
		for next := range kinds {
			mark(4, 8, kind)
			mark(8, 4, next)
			same(t, w, m, "Mark", kind, next)
		}
	}
	for kind := range kinds {
		w := watch.New(8)
		if e := w.Mark(4, 4, kind); e != api.OK || w.Kind(4, 4) != kind {
			t.Error("kind", kind, e, w.Kind(4, 4))
		}
	}
}

// P11.1: the first of several errors.
func TestOrderOfErrors(t *testing.T) {
	w := watch.New(32)
	for _, kind := range []int{-1, 9, math.MinInt, math.MaxInt, 256, 1<<32 + 1} {
		for _, at := range []int{-4, -1, 0, 1, 32, 36, 37} {
			if e := w.Mark(at, 6, kind); e != api.ErrArg {
				t.Error("Mark", at, 6, kind, e)
			}
		}
	}
	for _, l := range [][2]int{{-4, 4}, {-1, 3}, {-1, 0}, {0, -4}, {1, -1}, {29, 5}, {33, 0}, {33, 3}, {36, 0}, {36, 4}, {32, 4}, {0, 33}, {math.MaxInt, 1}, {1, math.MaxInt}, {math.MaxInt, math.MaxInt}} {
		if e := w.Mark(l[0], l[1], api.RegLive); e != api.ErrRange {
			t.Error("Mark", l, e)
		}
	}
	for _, l := range [][2]int{{1, 0}, {1, 4}, {2, 4}, {3, 4}, {0, 1}, {0, 2}, {0, 3}, {29, 3}, {31, 1}, {2, 2}} {
		if e := w.Mark(l[0], l[1], api.RegLive); e != api.ErrAlign {
			t.Error("Mark", l, e)
		}
	}
	for _, l := range [][2]int{{0, 0}, {4, 0}, {32, 0}} {
		if e := w.Mark(l[0], l[1], api.RegLive); e != api.OK {
			t.Error("Mark", l, e)
		}
	}
	if w.Sum(api.RegNone) != 32 {
		t.Error("bytes have been marked", w.Runs())
	}
}

// P11.2: the kind of n bytes from every offset on.
func TestKind(t *testing.T) {
	w, m := striped(t)
	for _, at := range around(40) {
		for _, n := range around(40) {
			if got, want := w.Kind(at, n), m.kind(at, n); got != want {
				t.Fatalf("Kind(%d, %d) = %d; want %d", at, n, got, want)
			}
		}
	}
	same(t, w, m, "Kind, which counts nothing")
	if w.Kind(4, 8) != 0 || w.Kind(9, 3) != api.RegLive || w.Kind(8, 0) != 0 || w.Kind(12, 4) != 0 || w.Kind(36, 4) != api.RegRoot || w.Kind(36, 5) != 0 {
		t.Error("kinds")
	}
}

// P11.2: the examples.
func TestExamplesOfLook(t *testing.T) {
	w := watch.New(32)
	if w.Mark(0, 8, api.RegWord) != api.OK || w.Mark(8, 16, api.RegLive) != api.OK {
		t.Fatal("Mark")
	}
	for i, l := range []struct {
		at, width, kind int
		want            bool
	}{{8, 8, api.RegLive, true}, {23, 1, api.RegLive, true}, {4, 8, api.RegWord, false}, {9, 2, api.RegLive, false}, {24, 4, api.RegNone, false}} {
		if w.Look(l.at, l.width, l.kind) != l.want || w.Looks() != i+1 || w.Faults() != max(0, i-1) {
			t.Error("Look", l, w.Looks(), w.Faults())
		}
	}
	if l := w.Runs(); !slices.Equal(l, []api.Run{{At: 0, Len: 8, Kind: api.RegWord}, {At: 8, Len: 16, Kind: api.RegLive}, {At: 24, Len: 8}}) {
		t.Error("runs", l)
	}

	w = watch.New(16)
	if e := w.Mark(4, 8, 5); e != api.OK {
		t.Fatal("Mark", e)
	}
	if l := w.Runs(); !slices.Equal(l, []api.Run{{At: 0, Len: 4}, {At: 4, Len: 8, Kind: 5}, {At: 12, Len: 4}}) {
		t.Error("runs", l)
	}
	if !w.Look(8, 4, 5) || w.Look(8, 8, 5) {
		t.Error("Look")
	}
}

// P11.2: accesses at every offset, of every width and for every kind, each of which is counted.
func TestLook(t *testing.T) {
	w, m := striped(t)
	look := func(at int, width int, kind int) {
		t.Helper()
		if got, want := w.Look(at, width, kind), m.look(at, width, kind); got != want {
			t.Fatalf("Look(%d, %d, %d) = %v; want %v", at, width, kind, got, want)
		}
		if w.Looks() != m.looks || w.Faults() != m.faults {
			t.Fatalf("Look(%d, %d, %d): %d looks, %d faults; want %d, %d", at, width, kind, w.Looks(), w.Faults(), m.looks, m.faults)
		}
	}
	for _, at := range around(40) {
		for _, width := range around(17) {
			for kind := range kinds {
				look(at, width, kind)
			}
		}
	}
	for at := range 40 {
		for _, width := range []int{1, 2, 4, 8} {
			for _, kind := range around(8) {
				look(at, width, kind)
			}
		}
	}
	same(t, w, m, "Look")
}

// P11.2: an access is permitted if each of its bytes is of the kind, and there is none beyond the end.
func TestLookHoldsEachByte(t *testing.T) {
	for other := range kinds {
		if other == api.RegLive {
			continue
		}
		for at := 0; at < 16; at += 4 {
			w, m, mark := pair(t, 16)
			mark(0, 16, api.RegLive)
			mark(at, 4, other)
			for from := range 17 {
				for _, width := range []int{1, 2, 4, 8} {
					if got, want := w.Look(from, width, api.RegLive), m.look(from, width, api.RegLive); got != want {
						t.Errorf("Look(%d, %d) with byte %d of %d = %v; want %v", from, width, at, other, got, want)
					}
				}
			}
		}
	}
	w := watch.New(12)
	if w.Mark(0, 12, api.RegLive) != api.OK || w.Look(8, 8, api.RegLive) || !w.Look(8, 4, api.RegLive) || w.Look(12, 4, api.RegLive) || w.Look(-8, 8, api.RegLive) {
		t.Error("the ends")
	}
}

// P11.3: the sums of kinds, and of those that are none.
func TestSum(t *testing.T) {
	w, m := striped(t)
	for _, kind := range around(8) {
		if got, want := w.Sum(kind), m.sum(kind); got != want {
			t.Errorf("Sum(%d) = %d; want %d", kind, got, want)
		}
	}
	if w.Sum(api.RegLive) != 12 || w.Sum(api.RegNone) != 4 || w.Sum(api.RegPad) != 12 || w.Sum(api.RegFree) != 0 || w.Sum(9) != 0 {
		t.Error("sums")
	}
}

// P11.3: the runs: rows that touch are one if they are of one kind, whatever they were marked by, and the first and the last one count too.
func TestRuns(t *testing.T) {
	w, _, mark := pair(t, 32)
	for _, step := range []struct {
		at, n, kind int
		want        []api.Run
	}{
		{8, 8, 3, []api.Run{{At: 0, Len: 8}, {At: 8, Len: 8, Kind: 3}, {At: 16, Len: 16}}},
		{16, 4, 3, []api.Run{{At: 0, Len: 8}, {At: 8, Len: 12, Kind: 3}, {At: 20, Len: 12}}},
		{12, 4, 4, []api.Run{{At: 0, Len: 8}, {At: 8, Len: 4, Kind: 3}, {At: 12, Len: 4, Kind: 4}, {At: 16, Len: 4, Kind: 3}, {At: 20, Len: 12}}},
		{28, 4, 8, []api.Run{{At: 0, Len: 8}, {At: 8, Len: 4, Kind: 3}, {At: 12, Len: 4, Kind: 4}, {At: 16, Len: 4, Kind: 3}, {At: 20, Len: 8}, {At: 28, Len: 4, Kind: 8}}},
		{0, 12, 4, []api.Run{{At: 0, Len: 16, Kind: 4}, {At: 16, Len: 4, Kind: 3}, {At: 20, Len: 8}, {At: 28, Len: 4, Kind: 8}}},
		{0, 32, 7, []api.Run{{At: 0, Len: 32, Kind: 7}}},
		{0, 32, 0, []api.Run{{At: 0, Len: 32}}},
	} {
		mark(step.at, step.n, step.kind)
		if l := w.Runs(); !slices.Equal(l, step.want) {
			t.Errorf("after Mark(%d, %d, %d): %v; want %v", step.at, step.n, step.kind, l, step.want)
		}
	}
	w, m, mark := pair(t, 64)
	for i := range 16 {
		mark(4*i, 4, 1+i%8)
	}
	same(t, w, m, "Mark of each four bytes")
	if l := w.Runs(); len(l) != 16 {
		t.Error("runs", l)
	}
}

// P11.3: the runs that are answered belong to the caller.
func TestRunsCopies(t *testing.T) {
	w, m := striped(t)
	first, second := w.Runs(), w.Runs()
	clear(first)
	_ = append(first[:1], api.Run{At: 9, Len: 9, Kind: 9})
	same(t, w, m, "clearing runs")
	if w.Mark(0, 40, api.RegFree) != api.OK || !slices.Equal(second, m.runs()) {
		t.Error("runs have changed", second)
	}
}

// P11.4: of a nil watch and of a zero value there is nothing, and nothing is counted.
func TestNilAndZero(t *testing.T) {
	for name, w := range map[string]*watch.Watch{"nil": nil, "zero": {}} {
		for _, at := range []int{0, 1, 4, -1, math.MaxInt} {
			for _, n := range []int{0, 1, 4, 8, -1, math.MaxInt} {
				for _, kind := range []int{0, 1, 5, 8, 9, -1} {
					if e := w.Mark(at, n, kind); e != api.ErrNil {
						t.Error(name, "Mark", at, n, kind, e)
					}
					if w.Look(at, n, kind) {
						t.Error(name, "Look", at, n, kind)
					}
					if w.Sum(kind) != 0 {
						t.Error(name, "Sum", kind)
					}
				}
				if w.Kind(at, n) != 0 {
					t.Error(name, "Kind", at, n)
				}
			}
		}
		if w.Looks() != 0 || w.Faults() != 0 || len(w.Runs()) != 0 {
			t.Error(name, w.Looks(), w.Faults(), w.Runs())
		}
		if w != nil && !reflect.DeepEqual(*w, watch.Watch{}) {
			t.Error("the zero value has changed")
		}
	}
}

// P11.5: the runs cover all bytes, neighbours are of different kinds, sums add up to all bytes, and Mark changes what it names alone.
func TestConsequences(t *testing.T) {
	below := numbers(11)
	for _, size := range []int{4, 8, 60, 256, 1024} {
		w, m, mark := pair(t, size)
		for range 300 {
			at, n := 4*below(size/4+1), 4*below(size/4+1)
			if below(2) == 0 {
				n = 4 * below(5)
			}
			mark(at, n, below(kinds+1))
			consistent(t, w, size)
		}
		same(t, w, m, "many marks")
	}
}

// consistent holds the runs and the sums of a watch against its size.
func consistent(t *testing.T, w *watch.Watch, size int) {
	t.Helper()
	end, before, sums := 0, -1, map[int]int{}
	for _, run := range w.Runs() {
		if run.At != end || run.Len < 1 || run.Kind == before || run.Kind < 0 || run.Kind > 8 || w.Kind(run.At, run.Len) != run.Kind {
			t.Fatal("runs", w.Runs())
		}
		end, before = run.At+run.Len, run.Kind
		sums[run.Kind] += run.Len
	}
	sum := 0
	for kind := range kinds {
		sum += w.Sum(kind)
		if w.Sum(kind) != sums[kind] {
			t.Fatal("sum", kind, w.Sum(kind), sums[kind])
		}
	}
	if end != size || sum != size {
		t.Fatal("bytes", end, sum, size)
	}
}

// P11.1 to P11.5: scripts of marks and looks, right ones and wrong ones, are answered as by the model.
func TestScripts(t *testing.T) {
	below := numbers(7)
	for range 40 {
		size := 4 * (1 + below(40))
		w, m, mark := pair(t, size)
		for step := range 200 {
			switch at := below(size+8) - 4; below(4) {
			case 0:
				mark(at, below(size+8)-4, below(kinds+2)-1)
			case 1:
				mark(at/4*4, 4*below(size/4), below(kinds))
			default:
				width, kind := 1<<below(5), below(kinds)
				if below(2) == 0 {
					kind = m.kind(at, 1)
				}
				if got, want := w.Look(at, width, kind), m.look(at, width, kind); got != want {
					t.Fatalf("step %d: Look(%d, %d, %d) = %v; want %v", step, at, width, kind, got, want)
				}
			}
		}
		same(t, w, m, "a script", size)
	}
}

// P11.1, P11.3: a watch of the greatest size.
func TestGreatest(t *testing.T) {
	w := watch.New(most)
	if w.Mark(0, most, api.RegSlab) != api.OK || w.Kind(0, most) != api.RegSlab || w.Sum(api.RegSlab) != most {
		t.Error("all")
	}
	for at := 0; at < most; at += 1024 {
		if w.Mark(at, 4, api.RegHead) != api.OK {
			t.Fatal("Mark", at)
		}
	}
	if l := w.Runs(); len(l) != 2048 || l[2047] != (api.Run{At: most - 1020, Len: 1020, Kind: api.RegSlab}) || w.Sum(api.RegHead) != 4096 {
		t.Error("runs", len(l))
	}
	if !w.Look(most-8, 8, api.RegSlab) || w.Look(most-4, 8, api.RegSlab) || !w.Look(most-1, 1, api.RegSlab) || w.Look(most, 1, api.RegSlab) {
		t.Error("the end")
	}
}
