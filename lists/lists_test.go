package lists_test

import (
	"bytes"
	"math"
	"slices"
	"testing"

	"columbarium/api"
	"columbarium/lists"
	"columbarium/memory"
)

// classes are the numbers of the lists: that of the free slabs, and one for each class.
const classes = 10

// Where the root has the first slabs of the lists, and where the headers begin, as the chapters 12 and 9 have it.
const (
	firsts  = 20
	headers = 128
	header  = 16
)

// configs are the smallest configuration, the greatest one, and some between them.
func configs() []api.Config {
	return []api.Config{{Slabs: 7, Slots: 224}, {Slabs: 8, Slots: 256}, {Slabs: 31, Slots: 1000}, {Slabs: 64, Slots: 2048}, {Slabs: 64, Slots: 8192}}
}

// extremes are ints far beyond all slabs, lists and counts; some are small once their high bits are lost.
func extremes() []int {
	l := []int{math.MinInt, math.MinInt + 1, math.MinInt + 3, math.MaxInt, math.MaxInt - 1}
	for bit := 16; bit < 63; bit++ {
		l = append(l, 1<<bit, 1<<bit+1, 1<<bit+3, -1<<bit, -1<<bit+1, -1<<bit+3)
	}
	return l
}

// outside are numbers that no row of n things from 0 on has.
func outside(n int) []int {
	return append([]int{-1, -2, -n, n, n + 1, 2 * n}, extremes()...)
}

// numbers answers a function that answers numbers below n, the same ones at each start.
func numbers(seed uint64) func(n int) int {
	return func(n int) int {
		seed = seed*6364136223846793005 + 1442695040888963407
		return int(seed>>33) % n
	}
}

// put lays a number, its lowest byte first.
func put(b []byte, at int, width int, v int) {
	for i := range width {
		b[at+i] = byte(v >> (8 * i))
	}
}

// model is what the headers and the lists of a memory must be.
type model struct {
	heads []api.Slab // Class, Live and Free alone
	list  []int      // of each slab the list that has it, or -1
}

// begun is the model of a memory after Begin.
func begun(slabs int) *model {
	return &model{heads: make([]api.Slab, slabs), list: make([]int, slabs)}
}

// members answers the slabs of a list.
func (w *model) members(class int) []int {
	var l []int
	for slab, at := range w.list {
		if at == class && class >= 0 {
			l = append(l, slab)
		}
	}
	return l
}

// head answers a slab's header.
func (w *model) head(slab int) api.Slab {
	h := w.heads[slab]
	for other, at := range w.list {
		if at != w.list[slab] || at < 0 {
			continue
		}
		if other < slab {
			h.Prev = other + 1
		}
		if other > slab && h.Next == 0 {
			h.Next = other + 1
		}
	}
	return h
}

// image answers an image that is like another one in all but the headers and the lists.
func (w *model) image(like []byte) []byte {
	b := slices.Clone(like)
	for class := range classes {
		first := 0
		if l := w.members(class); len(l) > 0 {
			first = l[0] + 1
		}
		put(b, firsts+4*class, 4, first)
	}
	for slab := range w.heads {
		h, at := w.head(slab), headers+header*slab
		put(b, at, 2, h.Class)
		put(b, at+2, 2, h.Live)
		put(b, at+4, 4, int(h.Free))
		put(b, at+8, 4, h.Next)
		put(b, at+12, 4, h.Prev)
	}
	return b
}

// hasSlab tells whether there is a slab, and hasList whether there is a list.
func (w *model) hasSlab(slab int) bool { return slab >= 0 && slab < len(w.heads) }
func hasList(class int) bool           { return class >= 0 && class < classes }

// set, insert and remove are Set, Insert and Remove.
func (w *model) set(slab int, class int, live int, free uint32) api.Errno {
	if !w.hasSlab(slab) {
		return api.ErrRange
	}
	if class < 0 || class > 9 || live < 0 || live > 65535 {
		return api.ErrArg
	}
	w.heads[slab] = api.Slab{Class: class, Live: live, Free: free}
	return api.OK
}

func (w *model) insert(class int, slab int) api.Errno {
	if !hasList(class) {
		return api.ErrArg
	}
	if !w.hasSlab(slab) {
		return api.ErrRange
	}
	if w.list[slab] >= 0 {
		return api.ErrState
	}
	w.list[slab] = class
	return api.OK
}

func (w *model) remove(class int, slab int) api.Errno {
	if !hasList(class) {
		return api.ErrArg
	}
	if !w.hasSlab(slab) {
		return api.ErrRange
	}
	if w.list[slab] != class {
		return api.ErrNone
	}
	w.list[slab] = -1
	return api.OK
}

// same holds all that a memory tells against its model, and its other bytes against those of an image.
func same(t *testing.T, m *memory.Memory, w *model, like []byte) {
	t.Helper()
	if !bytes.Equal(m.Image(), w.image(like)) {
		t.Fatal("bytes", w.list)
	}
	for class := range classes {
		want := w.members(class)
		first := -1
		if len(want) > 0 {
			first = want[0]
		}
		if l := lists.All(m, class); !slices.Equal(l, want) {
			t.Fatal("list", class, "is", l, "not", want)
		}
		if got := lists.First(m, class); got != first {
			t.Fatal("the first of list", class, "is", got, "not", first)
		}
	}
	for slab := range w.heads {
		if h, e := lists.Get(m, slab); h != w.head(slab) || e != api.OK {
			t.Fatal("header", slab, "is", h, e, "not", w.head(slab))
		}
	}
	if m.Faults() != 0 {
		t.Fatal("faults", m.Faults())
	}
}

// begin answers a memory after Begin.
func begin(t *testing.T, c api.Config) *memory.Memory {
	t.Helper()
	m := memory.New(c)
	if e := lists.Begin(m); e != api.OK {
		t.Fatal("begin", e)
	}
	return m
}

// garbled answers a memory whose root, headers and slabs have bytes that differ from each other and, nearly all, from 0.
func garbled(t *testing.T, c api.Config) *memory.Memory {
	t.Helper()
	b := memory.New(c).Image()
	for i := firsts; i < len(b); i++ {
		b[i] = byte(i*37 + i/251 + 1)
	}
	m, e := memory.From(c, b)
	if e != api.OK {
		t.Fatal("garbled", e)
	}
	return m
}

// P14.2 (Begin): all slabs are free ones.
func TestBegin(t *testing.T) {
	for slabs := 7; slabs <= 64; slabs++ {
		c := api.Config{Slabs: slabs, Slots: 2048}
		m := begin(t, c)
		same(t, m, begun(slabs), memory.New(c).Image())
	}
}

// P14.2 (Begin): whatever the headers and the lists were, and no other byte is changed.
func TestBeginAgain(t *testing.T) {
	for _, c := range configs() {
		m := garbled(t, c)
		before := m.Image()
		if e := lists.Begin(m); e != api.OK {
			t.Fatal(c, e)
		}
		same(t, m, begun(c.Slabs), before)
		for slab := range c.Slabs {
			lists.Remove(m, 0, slab)
			lists.Insert(m, slab%classes, slab)
			lists.Set(m, slab, 9, slab, math.MaxUint32)
		}
		if e := lists.Begin(m); e != api.OK {
			t.Fatal(c, e)
		}
		same(t, m, begun(c.Slabs), before)
	}
}

// P14.2 (First, All): before Begin there are lists, but no slab is in one of them.
func TestNew(t *testing.T) {
	for _, c := range configs() {
		m := memory.New(c)
		like := m.Image()
		w := begun(c.Slabs)
		for slab := range w.list {
			w.list[slab] = -1
		}
		same(t, m, w, like)
		for slab := range c.Slabs {
			for class := range classes {
				if e := lists.Remove(m, class, slab); e != api.ErrNone {
					t.Fatal("removed", class, slab, e)
				}
			}
		}
		same(t, m, w, like)
		if e, want := lists.Insert(m, 9, 4), w.insert(9, 4); e != want {
			t.Fatal("inserted", e)
		}
		same(t, m, w, like)
	}
}

// P14.1 (headers): the parts of a header, in their order, each with its lowest byte first.
func TestHeaderBytes(t *testing.T) {
	m := begin(t, api.Config{Slabs: 8, Slots: 256})
	for _, slab := range []int{5, 1, 3} {
		lists.Remove(m, 0, slab)
		lists.Insert(m, 2, slab)
	}
	lists.Set(m, 3, 2, 4, 1136)
	if h, e := lists.Get(m, 3); h != (api.Slab{Class: 2, Live: 4, Free: 1136, Next: 6, Prev: 2}) || e != api.OK {
		t.Error("the chapter's header", h, e)
	}
	if b := m.Image()[176:192]; !bytes.Equal(b, []byte{2, 0, 4, 0, 112, 4, 0, 0, 6, 0, 0, 0, 2, 0, 0, 0}) {
		t.Error("the chapter's header's bytes", b)
	}
	lists.Set(m, 3, 9, 258, 0x04030201)
	if b := m.Image()[176:192]; !bytes.Equal(b, []byte{9, 0, 2, 1, 1, 2, 3, 4, 6, 0, 0, 0, 2, 0, 0, 0}) {
		t.Error("bytes", b)
	}
}

// P14.1 (Get): each byte of a header belongs to the part that it lies in, and to no other slab.
func TestGet(t *testing.T) {
	for _, c := range configs() {
		m := garbled(t, c)
		b := m.Image()
		number := func(at int, width int) int {
			v := 0
			for i := range width {
				v += int(b[at+i]) << (8 * i)
			}
			return v
		}
		for slab := range c.Slabs {
			at := headers + header*slab
			want := api.Slab{Class: number(at, 2), Live: number(at+2, 2), Free: uint32(number(at+4, 4)), Next: number(at+8, 4), Prev: number(at+12, 4)}
			if h, e := lists.Get(m, slab); h != want || e != api.OK {
				t.Fatal(c, slab, h, e, "not", want)
			}
		}
		for i := range header {
			m.Store(headers+header+i, 1, api.RegHead, 255)
		}
		if h, e := lists.Get(m, 1); h != (api.Slab{Class: 65535, Live: 65535, Free: math.MaxUint32, Next: math.MaxUint32, Prev: math.MaxUint32}) || e != api.OK {
			t.Error("of bytes of 255", h, e)
		}
		if m.Faults() != 0 {
			t.Error("faults", m.Faults())
		}
	}
}

// P14.1 (Get): errors.
func TestGetErrors(t *testing.T) {
	for _, c := range configs() {
		m := begin(t, c)
		for _, slab := range outside(c.Slabs) {
			if h, e := lists.Get(m, slab); h != (api.Slab{}) || e != api.ErrRange {
				t.Error(c, slab, h, e)
			}
		}
		same(t, m, begun(c.Slabs), memory.New(c).Image())
	}
}

// P14.1 (Set): each class, and the ends of live and free. Next and Prev stay, as do all other bytes.
func TestSet(t *testing.T) {
	for _, c := range configs() {
		m := begin(t, c)
		w := begun(c.Slabs)
		like := m.Image()
		for _, slab := range []int{0, 1, 3, c.Slabs - 1} {
			for class := range classes {
				for _, live := range []int{0, 1, 2, 32, 255, 256, 32767, 32768, 65534, 65535} {
					for _, free := range []uint32{0, 1, 1136, 65535, 65536, 1 << 31, math.MaxUint32} {
						if e, want := lists.Set(m, slab, class, live, free), w.set(slab, class, live, free); e != want {
							t.Fatal(slab, class, live, free, e)
						}
						if !bytes.Equal(m.Image(), w.image(like)) {
							t.Fatal("bytes", slab, class, live, free)
						}
					}
				}
			}
			same(t, m, w, like)
		}
	}
}

// P14.1 (Set): Set goes by none of the lists: a slab keeps its own, whatever its class.
func TestSetLeavesLists(t *testing.T) {
	m := garbled(t, api.Config{Slabs: 9, Slots: 300})
	want := m.Image()
	for slab := range 9 {
		if e := lists.Set(m, slab, 7, 6, 5); e != api.OK {
			t.Fatal(slab, e)
		}
		copy(want[headers+header*slab:], []byte{7, 0, 6, 0, 5, 0, 0, 0})
		if !bytes.Equal(m.Image(), want) {
			t.Fatal("bytes", slab)
		}
	}
}

// P14.1 (Set): errors, in their order; nothing is changed.
func TestSetErrors(t *testing.T) {
	for _, c := range configs() {
		m := begin(t, c)
		for _, slab := range outside(c.Slabs) {
			if lists.Set(m, slab, 1, 1, 1) != api.ErrRange || lists.Set(m, slab, 10, 1, 1) != api.ErrRange || lists.Set(m, slab, 1, -1, 1) != api.ErrRange {
				t.Error("slab", slab)
			}
		}
		for _, class := range outside(classes) {
			if lists.Set(m, 0, class, 1, 1) != api.ErrArg || lists.Set(m, c.Slabs-1, class, 65536, 1) != api.ErrArg {
				t.Error("class", class)
			}
		}
		for _, live := range outside(65536) {
			if lists.Set(m, 0, 1, live, 1) != api.ErrArg || lists.Set(m, c.Slabs-1, 9, live, 1) != api.ErrArg {
				t.Error("live", live)
			}
		}
		same(t, m, begun(c.Slabs), memory.New(c).Image())
	}
}

// P14.2 (First, All): lists that do not exist have no slabs, and asking for them is no access.
func TestNoList(t *testing.T) {
	for _, c := range configs() {
		m := garbled(t, c)
		looks := m.Looks()
		for _, class := range outside(classes) {
			if first, l := lists.First(m, class), lists.All(m, class); first != -1 || len(l) != 0 {
				t.Error(c, class, first, l)
			}
		}
		if m.Looks() != looks {
			t.Error("looks", m.Looks()-looks)
		}
	}
}

// P14.2 (lists): the root has the first slab of each list in a field of its own.
func TestFirst(t *testing.T) {
	m := begin(t, api.Config{Slabs: 64, Slots: 2048})
	for class := 1; class < classes; class++ {
		lists.Remove(m, 0, 7*class)
		lists.Insert(m, class, 7*class)
	}
	for class := 1; class < classes; class++ {
		if first := lists.First(m, class); first != 7*class || m.Root(api.RootFree+class) != uint64(7*class+1) {
			t.Error(class, first, m.Root(api.RootFree+class))
		}
	}
	if lists.First(m, 0) != 0 || m.Root(api.RootFree) != 1 {
		t.Error("free", lists.First(m, 0))
	}
	// The fields beside those of the lists.
	if m.Root(api.RootSlots) != 2048 || m.Root(api.RootHand) != 0 {
		t.Error("beside", m.Root(api.RootSlots), m.Root(api.RootHand))
	}
}

// P14.2 (All): what All answers belongs to the caller.
func TestAllIsNew(t *testing.T) {
	m := begin(t, api.Config{Slabs: 8, Slots: 256})
	l, other := lists.All(m, 0), lists.All(m, 0)
	for i := range l {
		l[i] = 77
	}
	_ = append(l[:4], 78, 79, 80)
	if want := []int{0, 1, 2, 3, 4, 5, 6, 7}; !slices.Equal(other, want) || !slices.Equal(lists.All(m, 0), want) {
		t.Error(other, lists.All(m, 0))
	}
}

// P14.2 (lists), P14.3 (Insert): in whatever order some slabs come into a list, each finds its place.
func TestInsertOrders(t *testing.T) {
	c := api.Config{Slabs: 7, Slots: 224}
	like := memory.New(c).Image()
	var try func(done []int)
	try = func(done []int) {
		m := begin(t, c)
		w := begun(c.Slabs)
		for _, slab := range done {
			if lists.Remove(m, 0, slab) != w.remove(0, slab) || lists.Insert(m, 4, slab) != w.insert(4, slab) {
				t.Fatal(done)
			}
		}
		same(t, m, w, like)
		for slab := range c.Slabs {
			if len(done) < 5 && !slices.Contains(done, slab) {
				try(append(slices.Clip(done), slab))
			}
		}
	}
	try(nil)
}

// P14.3 (Remove): each slab of a list, be it the first, one between others, the last or the only one.
func TestRemoveEach(t *testing.T) {
	c := api.Config{Slabs: 7, Slots: 224}
	like := memory.New(c).Image()
	for set := range 1 << c.Slabs {
		for gone := range c.Slabs {
			m := begin(t, c)
			w := begun(c.Slabs)
			for slab := range c.Slabs {
				if set>>slab&1 == 1 {
					lists.Remove(m, 0, slab)
					w.remove(0, slab)
				}
			}
			if e, want := lists.Remove(m, 0, gone), w.remove(0, gone); e != want {
				t.Fatal(set, gone, e, want)
			}
			same(t, m, w, like)
		}
	}
}

// P14.3 (Remove): the links of a slab that is in no list are 0.
func TestRemoveClearsLinks(t *testing.T) {
	m := begin(t, api.Config{Slabs: 8, Slots: 256})
	for _, slab := range []int{3, 0, 7} {
		lists.Set(m, slab, 5, 6, 7)
		if e := lists.Remove(m, 0, slab); e != api.OK {
			t.Fatal(slab, e)
		}
		if h, e := lists.Get(m, slab); h != (api.Slab{Class: 5, Live: 6, Free: 7}) || e != api.OK {
			t.Error(slab, h, e)
		}
	}
}

// P14.3 (Insert, Remove): a slab in a list can't come into any, and can be taken out of its own alone.
func TestStates(t *testing.T) {
	c := api.Config{Slabs: 12, Slots: 400}
	like := memory.New(c).Image()
	m := begin(t, c)
	w := begun(c.Slabs)
	// Slab i is in the list i, but for 10 and 11; so all lists have one slab, but for 4, 5 and 6.
	for slab := range c.Slabs {
		lists.Remove(m, 0, slab)
		w.remove(0, slab)
	}
	for slab := range 10 {
		lists.Insert(m, slab, slab)
		w.insert(slab, slab)
	}
	for _, slab := range []int{4, 6} {
		lists.Remove(m, slab, slab)
		lists.Insert(m, 5, slab)
		w.list[slab] = 5
	}
	same(t, m, w, like)
	for slab := range c.Slabs {
		for class := range classes {
			if w.list[slab] >= 0 {
				if e := lists.Insert(m, class, slab); e != api.ErrState {
					t.Error("inserted", class, slab, e)
				}
			}
			if w.list[slab] != class {
				if e := lists.Remove(m, class, slab); e != api.ErrNone {
					t.Error("removed", class, slab, e)
				}
			}
			same(t, m, w, like)
		}
	}
}

// P14.3 (Insert, Remove): a slab's class says nothing of its list.
func TestClassIsNoList(t *testing.T) {
	m := begin(t, api.Config{Slabs: 8, Slots: 256})
	lists.Set(m, 2, 6, 1, 1)
	if e := lists.Remove(m, 6, 2); e != api.ErrNone {
		t.Error("of its class", e)
	}
	if e := lists.Insert(m, 6, 2); e != api.ErrState {
		t.Error("into its class", e)
	}
	if lists.Remove(m, 0, 2) != api.OK || lists.Insert(m, 3, 2) != api.OK || lists.First(m, 3) != 2 || lists.First(m, 6) != -1 {
		t.Error("into another one", lists.All(m, 3), lists.All(m, 6))
	}
}

// P14.3 (Insert, Remove): errors, in their order; nothing is changed.
func TestErrors(t *testing.T) {
	for _, c := range configs() {
		m := begin(t, c)
		for _, class := range outside(classes) {
			for _, slab := range []int{0, c.Slabs - 1, c.Slabs, -1, math.MaxInt, math.MinInt} {
				if a, b := lists.Insert(m, class, slab), lists.Remove(m, class, slab); a != api.ErrArg || b != api.ErrArg {
					t.Error("list", class, slab, a, b)
				}
			}
		}
		for _, slab := range outside(c.Slabs) {
			for class := range classes {
				if a, b := lists.Insert(m, class, slab), lists.Remove(m, class, slab); a != api.ErrRange || b != api.ErrRange {
					t.Error("slab", class, slab, a, b)
				}
			}
		}
		same(t, m, begun(c.Slabs), memory.New(c).Image())
	}
}

// R1: a nil memory, and one that nobody has made, come ahead of all other errors.
func TestNil(t *testing.T) {
	for _, m := range []*memory.Memory{nil, {}} {
		if e := lists.Begin(m); e != api.ErrNil {
			t.Error("begin", e)
		}
		for _, slab := range append(outside(7), 0, 3, 6) {
			if h, e := lists.Get(m, slab); h != (api.Slab{}) || e != api.ErrNil {
				t.Error("get", slab, h, e)
			}
			for _, class := range []int{0, 1, 9, 10, -1, math.MaxInt, math.MinInt} {
				if e := lists.Set(m, slab, class, 1, 1); e != api.ErrNil {
					t.Error("set", slab, class, e)
				}
				if e := lists.Set(m, slab, class, -1, 1); e != api.ErrNil {
					t.Error("set", slab, class, e)
				}
				if a, b := lists.Insert(m, class, slab), lists.Remove(m, class, slab); a != api.ErrNil || b != api.ErrNil {
					t.Error("insert, remove", class, slab, a, b)
				}
			}
		}
		for _, class := range append(outside(classes), 0, 1, 9) {
			if first, l := lists.First(m, class), lists.All(m, class); first != -1 || len(l) != 0 {
				t.Error("first, all", class, first, l)
			}
		}
		if m.Looks() != 0 || m.Config() != (api.Config{}) {
			t.Error("changed")
		}
	}
}

// P14.4: what is done at random, held against the model, step by step.
func TestRandom(t *testing.T) {
	for i, c := range configs() {
		next := numbers(uint64(i) + 1)
		m := begin(t, c)
		w := begun(c.Slabs)
		like := m.Image()
		for step := range 3000 {
			slab, class := next(c.Slabs+2)-1, next(classes+2)-1
			if next(3) > 0 {
				// Two lists alone, so that they grow long.
				class = next(2) * 9
			}
			var e, want api.Errno
			switch next(4) {
			case 0:
				live, free := next(65536+2)-1, uint32(next(1<<20))
				e, want = lists.Set(m, slab, class, live, free), w.set(slab, class, live, free)
			case 1:
				e, want = lists.Insert(m, class, slab), w.insert(class, slab)
			default:
				e, want = lists.Remove(m, class, slab), w.remove(class, slab)
				if e == api.OK && next(2) == 0 {
					e, want = lists.Insert(m, 9-class, slab), w.insert(9-class, slab)
				}
			}
			if e != want {
				t.Fatal(c, step, slab, class, e, "not", want)
			}
			same(t, m, w, like)
		}
	}
}

// P14.4: to insert a slab and to remove it again, or the other way round, changes nothing.
func TestBackAndForth(t *testing.T) {
	for _, c := range configs() {
		m := begin(t, c)
		for slab := range c.Slabs {
			lists.Set(m, slab, slab%classes, slab, uint32(slab*slab))
			if slab%3 != 0 {
				lists.Remove(m, 0, slab)
			}
			if slab%3 == 2 {
				lists.Insert(m, 1+slab%4, slab)
			}
		}
		before := m.Image()
		for slab := range c.Slabs {
			for class := range classes {
				first, then := lists.Insert, lists.Remove
				if slices.Contains(lists.All(m, class), slab) {
					first, then = lists.Remove, lists.Insert
				} else if slab%3 != 1 {
					continue
				}
				if a, b := first(m, class, slab), then(m, class, slab); a != api.OK || b != api.OK || !bytes.Equal(m.Image(), before) {
					t.Fatal(c, class, slab, a, b)
				}
			}
		}
	}
}

// P14.4: Insert and Remove leave Class, Live and Free as they are, of all slabs.
func TestNumbersStay(t *testing.T) {
	c := api.Config{Slabs: 10, Slots: 320}
	m := begin(t, c)
	for slab := range c.Slabs {
		lists.Set(m, slab, slab%classes, 65535-slab, math.MaxUint32-uint32(slab))
	}
	for i := range c.Slabs {
		slab := i * 7 % c.Slabs
		lists.Remove(m, 0, slab)
		lists.Insert(m, 1+i%2, slab)
		for slab := range c.Slabs {
			h, _ := lists.Get(m, slab)
			h.Next, h.Prev = 0, 0
			if h != (api.Slab{Class: slab % classes, Live: 65535 - slab, Free: math.MaxUint32 - uint32(slab)}) {
				t.Fatal(i, slab, h)
			}
		}
	}
}

// The chapter's examples.
func TestExamples(t *testing.T) {
	m := begin(t, api.Config{Slabs: 8, Slots: 256})
	if l := lists.All(m, 0); len(l) != 8 {
		t.Error("after Begin", l)
	}
	if lists.Remove(m, 0, 0) != api.OK || lists.Insert(m, 3, 0) != api.OK || lists.First(m, 0) != 1 || lists.First(m, 3) != 0 {
		t.Error("the first slab", lists.First(m, 0), lists.First(m, 3))
	}
	for _, slab := range []int{5, 1, 3} {
		lists.Remove(m, 0, slab)
		lists.Insert(m, 2, slab)
	}
	if l := lists.All(m, 2); !slices.Equal(l, []int{1, 3, 5}) {
		t.Error("class 2", l)
	}
	if e := lists.Insert(m, 2, 0); e != api.ErrState {
		t.Error("insert", e)
	}
	if e := lists.Remove(m, 3, 3); e != api.ErrNone {
		t.Error("remove", e)
	}
}

// R4: two memories have lists of their own.
func TestIndependent(t *testing.T) {
	c := api.Config{Slabs: 8, Slots: 256}
	a, b := begin(t, c), begin(t, c)
	before := b.Image()
	lists.Remove(a, 0, 3)
	lists.Insert(a, 5, 3)
	lists.Set(a, 4, 5, 6, 7)
	if !bytes.Equal(b.Image(), before) {
		t.Error("bytes of another memory")
	}
}

// linked answers a memory in which one list's first slab and each slab's next one are as they are given, as slab number plus 1.
func linked(t *testing.T, class int, first uint64, next ...uint64) *memory.Memory {
	t.Helper()
	m := memory.New(api.Config{Slabs: 7, Slots: 224})
	m.SetRoot(api.RootFree+class, first)
	for slab, v := range next {
		if !m.Store(headers+header*slab+8, 4, api.RegHead, v) {
			t.Fatal("linked", slab, v)
		}
	}
	return m
}

// P14.2 (lists), R1: a list that others have written ends where it leads to no slab, or back.
func TestStrangeLists(t *testing.T) {
	cases := []struct {
		m    *memory.Memory
		want []int
	}{
		{linked(t, 2, 2, 0, 4, 0, 6), []int{1, 3, 5}},
		{linked(t, 2, 7), []int{6}},
		{linked(t, 2, 8), nil},
		{linked(t, 2, 1<<32-1), nil},
		{linked(t, 2, 2, 0, 8), []int{1}},
		{linked(t, 2, 2, 0, 1<<31), []int{1}},
		{linked(t, 2, 2, 0, 1<<32-1), []int{1}},
		{linked(t, 2, 2, 0, 2), []int{1}},
		{linked(t, 2, 2, 0, 4, 0, 2), []int{1, 3}},
		{linked(t, 2, 1, 2, 3, 4, 5, 6, 7, 1), []int{0, 1, 2, 3, 4, 5, 6}},
	}
	for i, c := range cases {
		first := -1
		if len(c.want) > 0 {
			first = c.want[0]
		}
		if l := lists.All(c.m, 2); !slices.Equal(l, c.want) || lists.First(c.m, 2) != first {
			t.Error(i, l, lists.First(c.m, 2))
		}
		for slab := range 7 {
			want := api.OK
			if slices.Contains(c.want, slab) {
				want = api.ErrState
			}
			x, _ := memory.From(c.m.Config(), c.m.Image())
			if e := lists.Insert(x, 5, slab); e != want || x.Faults() != 0 {
				t.Error(i, "inserted", slab, e, x.Faults())
			}
		}
		if c.m.Faults() != 0 {
			t.Error(i, "faults", c.m.Faults())
		}
	}
}

// R1: whatever bytes others have written, each call ends, answers slabs that exist, and touches nothing that it may not.
func TestAnyBytes(t *testing.T) {
	for i, c := range configs() {
		next := numbers(uint64(i) + 99)
		for range 40 {
			b := memory.New(c).Image()
			for at := firsts; at < firsts+4*classes; at += 4 {
				put(b, at, 4, next(c.Slabs+4))
			}
			for at := headers; at < headers+header*c.Slabs; at += 4 {
				put(b, at, 4, next(c.Slabs+4))
			}
			m, e := memory.From(c, b)
			if e != api.OK {
				t.Fatal(e)
			}
			for range 200 {
				slab, class := next(c.Slabs), next(classes)
				switch next(3) {
				case 0:
					if e := lists.Insert(m, class, slab); e != api.OK && e != api.ErrState {
						t.Fatal("insert", class, slab, e)
					}
				case 1:
					if e := lists.Remove(m, class, slab); e != api.OK && e != api.ErrNone {
						t.Fatal("remove", class, slab, e)
					}
				default:
					l := lists.All(m, class)
					if len(l) > c.Slabs || len(l) > 0 && l[0] != lists.First(m, class) || slices.ContainsFunc(l, func(slab int) bool { return slab < 0 || slab >= c.Slabs }) {
						t.Fatal("all", class, l)
					}
				}
			}
			if m.Faults() != 0 {
				t.Fatal("faults", m.Faults())
			}
			if lists.Begin(m) != api.OK || len(lists.All(m, 0)) != c.Slabs {
				t.Fatal("begin", lists.All(m, 0))
			}
		}
	}
}

// R1: a memory whose root and headers are of another kind refuses all accesses: each call ends, and nothing is changed.
func TestOtherKinds(t *testing.T) {
	c := api.Config{Slabs: 8, Slots: 256}
	m := begin(t, c)
	before := m.Image()
	m.Mark(8, headers+header*c.Slabs-8, api.RegPad)
	lists.Begin(m)
	lists.Get(m, 1)
	lists.Set(m, 1, 2, 3, 4)
	lists.Insert(m, 2, 1)
	lists.Remove(m, 0, 1)
	if first, l := lists.First(m, 0), lists.All(m, 0); first != -1 || len(l) != 0 {
		t.Error(first, l)
	}
	if !bytes.Equal(m.Image(), before) {
		t.Error("bytes")
	}
}
