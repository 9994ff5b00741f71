package slab_test

import (
	"bytes"
	"math"
	"slices"
	"testing"

	"columbarium/api"
	"columbarium/lists"
	"columbarium/memory"
	"columbarium/slab"
)

// sizes are the bytes of a block of each class, as chapter 8 has them; class 0 has no blocks.
var sizes = [10]int{0, 32, 48, 64, 96, 128, 192, 256, 384, 512}

// Where the root has the first slabs of the lists, and where the headers begin, as the chapters 12 and 9 have it.
const (
	firsts  = 20
	headers = 128
	header  = 16
	bytesOf = 1024 // of a slab
)

// small is the smallest configuration: its slabs begin at 1136.
var small = api.Config{Slabs: 7, Slots: 224}

// configs are the smallest configuration, the greatest one, and some between them.
func configs() []api.Config {
	return []api.Config{small, {Slabs: 7, Slots: 226}, {Slabs: 9, Slots: 300}, {Slabs: 31, Slots: 1000}, {Slabs: 64, Slots: 8192}}
}

// base is where the slabs begin.
func base(c api.Config) int { return (headers + header*c.Slabs + 4*c.Slots + 15) / 16 * 16 }

// end is where the arena ends.
func end(c api.Config) int { return base(c) + bytesOf*c.Slabs }

// count is how many blocks a slab of a class has.
func count(class int) int {
	if class == 0 {
		return 0
	}
	return bytesOf / sizes[class]
}

// extremes are ints far beyond all offsets, slabs and classes; some are small once their high bits are lost.
func extremes() []int {
	l := []int{math.MinInt, math.MinInt + 1, math.MinInt + 1136, math.MaxInt, math.MaxInt - 1, math.MaxInt - 1023}
	for bit := 21; bit < 63; bit++ {
		l = append(l, 1<<bit, 1<<bit+1, 1<<bit+1136, -1<<bit, -1<<bit+1, -1<<bit+1136)
	}
	return l
}

// outside are numbers that no row of n things from a first one on has.
func outside(first int, n int) []int {
	return append([]int{first - 1, first - 2, first - n, first + n, first + n + 1, first + 2*n}, extremes()...)
}

// numbers answers a function that answers numbers below n, the same ones at each start.
func numbers(seed uint64) func(n int) int {
	return func(n int) int {
		seed = seed*6364136223846793005 + 1442695040888963407
		return int(seed>>33) % n
	}
}

// put lays a number, its lowest byte first.
func put(b []byte, at int, width int, v int) {
	for i := range width {
		b[at+i] = byte(v >> (8 * i))
	}
}

// fill is what a test writes into a live block, so that no byte of it is 0.
func fill(at int, n int) []byte {
	b := make([]byte, n)
	for i := range b {
		b[i] = byte(at*31+i*7)%255 + 1
	}
	return b
}

// shelf is what a slab must be: its class, its free blocks in the order in which they are taken, and what its live ones hold.
type shelf struct {
	class int
	free  []int
	live  map[int][]byte
}

// model is what a memory must be.
type model struct {
	c       api.Config
	like    []byte // the bytes that none of the calls changes
	shelves []shelf
}

// begun is the model of a memory after Begin.
func begun(c api.Config) *model {
	return &model{c: c, like: memory.New(c).Image(), shelves: make([]shelf, c.Slabs)}
}

// list answers the slabs of a list: those of the class that have a free block, or the free ones.
func (w *model) list(class int) []int {
	var l []int
	for i, s := range w.shelves {
		if s.class == class && (class == 0 || len(s.free) > 0) {
			l = append(l, i)
		}
	}
	return l
}

// at is where a slab begins.
func (w *model) at(slab int) int { return base(w.c) + bytesOf*slab }

// where answers the slab of an offset and the block that contains it.
func (w *model) where(at int) (int, int, bool) {
	if at < base(w.c) || at >= end(w.c) {
		return 0, 0, false
	}
	i := (at - base(w.c)) / bytesOf
	class := w.shelves[i].class
	for k := range count(class) {
		if begin := w.at(i) + k*sizes[class]; at >= begin && at < begin+sizes[class] {
			return i, begin, true
		}
	}
	return 0, 0, false
}

// take and give are Take and Give.
func (w *model) take(class int) (int, api.Errno) {
	if class < 1 || class > 9 {
		return 0, api.ErrArg
	}
	l := w.list(class)
	if len(l) == 0 {
		if l = w.list(0); len(l) == 0 {
			return 0, api.ErrFull
		}
		s := shelf{class: class, live: map[int][]byte{}}
		for k := range count(class) {
			s.free = append(s.free, w.at(l[0])+k*sizes[class])
		}
		w.shelves[l[0]] = s
	}
	s := &w.shelves[l[0]]
	at := s.free[0]
	s.free = s.free[1:]
	s.live[at] = make([]byte, sizes[class])
	return at, api.OK
}

func (w *model) give(at int) api.Errno {
	i, begin, ok := w.where(at)
	if !ok || begin != at {
		return api.ErrKind
	}
	s := &w.shelves[i]
	if s.live[at] == nil {
		return api.ErrKind
	}
	delete(s.live, at)
	s.free = append([]int{at}, s.free...)
	if len(s.live) == 0 {
		*s = shelf{}
	}
	return api.OK
}

// lives answers where a slab's live blocks begin.
func (w *model) lives(slab int) []int {
	var l []int
	for at := range w.shelves[slab].live {
		l = append(l, at)
	}
	slices.Sort(l)
	return l
}

// all answers where the live blocks of all slabs begin.
func (w *model) all() []int {
	var l []int
	for i := range w.shelves {
		l = append(l, w.lives(i)...)
	}
	return l
}

// image answers the bytes that the memory must have.
func (w *model) image() []byte {
	b := slices.Clone(w.like)
	for class := range sizes {
		before := 0
		for _, i := range w.list(class) {
			if before == 0 {
				put(b, firsts+4*class, 4, i+1)
			} else {
				put(b, headers+header*(before-1)+8, 4, i+1)
			}
			put(b, headers+header*i+12, 4, before)
			before = i + 1
		}
	}
	for i, s := range w.shelves {
		put(b, headers+header*i, 2, s.class)
		put(b, headers+header*i+2, 2, len(s.live))
		refers := headers + header*i + 4
		for _, at := range s.free {
			put(b, refers, 4, at)
			refers = at + 4
		}
		for at, l := range s.live {
			copy(b[at:], l)
		}
	}
	return b
}

// runs answers the runs that the memory must have.
func (w *model) runs() []api.Run {
	var l []api.Run
	at := 0
	add := func(n int, kind int) {
		if last := len(l) - 1; n > 0 && last >= 0 && l[last].Kind == kind {
			l[last].Len += n
		} else if n > 0 {
			l = append(l, api.Run{At: at, Len: n, Kind: kind})
		}
		at += n
	}
	add(8, api.RegWord)
	add(120, api.RegRoot)
	add(header*w.c.Slabs, api.RegHead)
	add(4*w.c.Slots, api.RegSlot)
	add(base(w.c)-at, api.RegPad)
	for i, s := range w.shelves {
		if s.class == 0 {
			add(bytesOf, api.RegSlab)
			continue
		}
		for range count(s.class) {
			if s.live[at] != nil {
				add(sizes[s.class], api.RegLive)
			} else {
				add(sizes[s.class], api.RegFree)
			}
		}
		add(w.at(i+1)-at, api.RegPad)
	}
	return l
}

// same holds a memory's bytes and kinds against its model, and that no access was a fault.
func same(t *testing.T, m *memory.Memory, w *model) {
	t.Helper()
	if got, want := m.Image(), w.image(); !bytes.Equal(got, want) {
		for i := range want {
			if got[i] != want[i] {
				t.Fatal("byte", i, "is", got[i], "not", want[i])
			}
		}
		t.Fatal("bytes")
	}
	if l := m.Runs(); !slices.Equal(l, w.runs()) {
		t.Fatal("runs", l, "not", w.runs())
	}
	if m.Faults() != 0 {
		t.Fatal("faults", m.Faults())
	}
}

// told holds what the other functions tell of a memory against its model.
func told(t *testing.T, m *memory.Memory, w *model) {
	t.Helper()
	var room [10]int
	for i, s := range w.shelves {
		room[s.class] += len(s.free)
		if l := slab.Live(m, i); !slices.Equal(l, w.lives(i)) {
			t.Fatal("live blocks of", i, l, "not", w.lives(i))
		}
	}
	for class, want := range room {
		if n := slab.Room(m, class); n != want {
			t.Fatal("room of", class, n, "not", want)
		}
	}
	if n := slab.Free(m); n != len(w.list(0)) {
		t.Fatal("free slabs", n, "not", len(w.list(0)))
	}
}

// begin answers a memory after Begin, and its model.
func begin(t *testing.T, c api.Config) (*memory.Memory, *model) {
	t.Helper()
	m := memory.New(c)
	if e := slab.Begin(m); e != api.OK {
		t.Fatal("begin", e)
	}
	return m, begun(c)
}

// take takes a block of a memory and of its model.
func take(t *testing.T, m *memory.Memory, w *model, class int) int {
	t.Helper()
	at, e := slab.Take(m, class)
	if want, wantE := w.take(class); at != want || e != wantE {
		t.Fatal("taken of", class, at, e, "not", want, wantE)
	}
	return at
}

// write fills a live block of a memory and of its model.
func write(t *testing.T, m *memory.Memory, w *model, at int) {
	t.Helper()
	i, _, _ := w.where(at)
	b := w.shelves[i].live[at]
	copy(b, fill(at, len(b)))
	if !m.Write(at, b, api.RegLive) {
		t.Fatal("not live", at)
	}
}

// give gives a block back to a memory and to its model.
func give(t *testing.T, m *memory.Memory, w *model, at int) {
	t.Helper()
	if e, want := slab.Give(m, at), w.give(at); e != want {
		t.Fatal("given", at, e, "not", want)
	}
}

// P15.1 (Begin): as lists.Begin: all slabs are free ones, whatever the headers and the lists were, and no other byte changes.
func TestBegin(t *testing.T) {
	for _, c := range configs() {
		m, w := begin(t, c)
		same(t, m, w)
		told(t, m, w)
		b := memory.New(c).Image()
		for i := firsts; i < len(b); i++ {
			b[i] = byte(i*37 + i/251 + 1)
		}
		m, _ = memory.From(c, b)
		x, _ := memory.From(c, b)
		if a, b := slab.Begin(m), lists.Begin(x); a != api.OK || b != api.OK {
			t.Fatal(a, b)
		}
		if !bytes.Equal(m.Image(), x.Image()) || !slices.Equal(m.Runs(), x.Runs()) || m.Faults() != 0 || slab.Free(m) != c.Slabs {
			t.Fatal(c, "not as lists.Begin")
		}
	}
}

// P15.1 (Begin): it marks no bytes, and Take begins anew with all that was in use.
func TestBeginAgain(t *testing.T) {
	for _, c := range configs() {
		m, w := begin(t, c)
		for class := 1; class <= 7; class++ {
			for range count(class) - 1 {
				write(t, m, w, take(t, m, w, class))
			}
		}
		was, runs := m.Image(), m.Runs()
		if e := slab.Begin(m); e != api.OK || !slices.Equal(m.Runs(), runs) || !bytes.Equal(m.Image()[base(c):], was[base(c):]) {
			t.Fatal(c, "begun again", e)
		}
		for _, at := range w.all() {
			if e := slab.Give(m, at); e != api.ErrKind {
				t.Fatal("a block of a free slab", at, e)
			}
		}
		w = begun(c)
		told(t, m, w)
		for i := range c.Slabs {
			// Another class than the slab had, so that blocks and padding lie otherwise.
			class := 9 - i%9
			for range count(class) {
				take(t, m, w, class)
			}
		}
		same(t, m, w)
		told(t, m, w)
	}
}

// P15.1, P15.2, P15.3: before Begin no slab is in a list, so there is no block to be had.
func TestNew(t *testing.T) {
	for _, c := range configs() {
		m := memory.New(c)
		for class := 1; class <= 9; class++ {
			if at, e := slab.Take(m, class); at != 0 || e != api.ErrFull || slab.Room(m, class) != 0 {
				t.Error(c, class, at, e)
			}
		}
		if slab.Free(m) != 0 || len(slab.Live(m, 0)) != 0 || slab.Give(m, base(c)) != api.ErrKind {
			t.Error(c, "a new memory")
		}
		if !bytes.Equal(m.Image(), memory.New(c).Image()) || m.Faults() != 0 {
			t.Error(c, "changed")
		}
	}
}

// P15.2 (Take): the blocks of each class, slab after slab, each in increasing order, and then none of any class.
func TestTake(t *testing.T) {
	for _, c := range configs() {
		for class := 1; class <= 9; class++ {
			m, w := begin(t, c)
			for i := range c.Slabs {
				for k := range count(class) {
					at, e := slab.Take(m, class)
					if want := base(c) + bytesOf*i + k*sizes[class]; at != want || e != api.OK {
						t.Fatal(c, class, i, k, at, e, "not", want)
					}
					w.take(class)
					if k < 3 || k+3 > count(class) {
						same(t, m, w)
						told(t, m, w)
					}
				}
			}
			for other := 1; other <= 9; other++ {
				if at, e := slab.Take(m, other); at != 0 || e != api.ErrFull {
					t.Fatal(c, class, other, at, e)
				}
			}
			same(t, m, w)
			told(t, m, w)
		}
	}
}

// P15.2 (Take): a free block of another class, or of a full slab's class, is no block of the class.
func TestTakeFull(t *testing.T) {
	for class := 1; class <= 9; class++ {
		m, w := begin(t, small)
		for range 6 * count(class) {
			take(t, m, w, class)
		}
		other := class%9 + 1
		take(t, m, w, other)
		for range 2 {
			if at, e := slab.Take(m, class); at != 0 || e != api.ErrFull {
				t.Fatal(class, at, e)
			}
			same(t, m, w)
		}
		for range count(other) - 1 {
			take(t, m, w, other)
		}
		if at, e := slab.Take(m, other); at != 0 || e != api.ErrFull {
			t.Fatal(other, at, e)
		}
		same(t, m, w)
		told(t, m, w)
	}
}

// P15.2 (Take): a block is zero, whatever was in it before, and no other block is touched.
func TestTakeZero(t *testing.T) {
	for class := 1; class <= 9; class++ {
		m, w := begin(t, small)
		var l []int
		for range 2 * count(class) {
			at := take(t, m, w, class)
			write(t, m, w, at)
			l = append(l, at)
		}
		for _, at := range []int{l[0], l[len(l)-1], l[count(class)-1]} {
			give(t, m, w, at)
			same(t, m, w)
			if take(t, m, w, class) != at {
				t.Fatal("another block than", at)
			}
			if b := m.Read(at, sizes[class], api.RegLive); !bytes.Equal(b, make([]byte, sizes[class])) {
				t.Fatal("not zero", b)
			}
			same(t, m, w)
			write(t, m, w, at)
		}
	}
}

// P15.2 (Take): errors, in their order; nothing is changed.
func TestTakeErrors(t *testing.T) {
	for _, c := range configs() {
		m, w := begin(t, c)
		for i := range 9 * c.Slabs {
			for _, class := range outside(1, 9) {
				if at, e := slab.Take(m, class); at != 0 || e != api.ErrArg {
					t.Fatal(c, class, at, e)
				}
			}
			// Be there a free block, a free slab or none: a class that is none is told first.
			take(t, m, w, 9-i%2)
		}
		same(t, m, w)
	}
}

// P15.2 (Give): the block that was given last is the first one to be taken.
func TestGiveOrder(t *testing.T) {
	for class := 1; class <= 9; class++ {
		n := count(class)
		m, w := begin(t, small)
		var l []int
		for range n {
			l = append(l, take(t, m, w, class))
		}
		for i := range n - 1 {
			// 11 has no divisor in common with any number of blocks, so that none is given twice.
			if e := slab.Give(m, l[i*11%n]); e != api.OK {
				t.Fatal(class, i, e)
			}
			w.give(l[i*11%n])
			same(t, m, w)
			told(t, m, w)
		}
		for range n - 1 {
			take(t, m, w, class)
			same(t, m, w)
		}
	}
}

// P15.2 (Give): a full slab of which a block is given is in its list again, at its place, and the first slab's block is taken.
func TestGiveOfFull(t *testing.T) {
	for class := 1; class <= 9; class++ {
		m, w := begin(t, small)
		var l []int
		for range 7 * count(class) {
			l = append(l, take(t, m, w, class))
		}
		for _, i := range []int{4, 1, 6, 0, 3} {
			at := l[i*count(class)+1]
			give(t, m, w, at)
			same(t, m, w)
			told(t, m, w)
			if slab.Room(m, class) == 0 || !slices.Equal(lists.All(m, class), w.list(class)) {
				t.Fatal("not in its list", i)
			}
		}
		for _, i := range []int{0, 1, 3, 4, 6} {
			if at := take(t, m, w, class); at != l[i*count(class)+1] {
				t.Fatal(class, "taken", at)
			}
			same(t, m, w)
		}
	}
}

// P15.2 (Give): the last block of a slab leaves a free slab of zeros, which is at its place in the list of the free ones and can be of another class.
func TestGiveLast(t *testing.T) {
	for class := 1; class <= 9; class++ {
		m, w := begin(t, small)
		var l []int
		for range 7 * count(class) {
			at := take(t, m, w, class)
			write(t, m, w, at)
			l = append(l, at)
		}
		for k, i := range []int{5, 2, 4} {
			for j := range count(class) {
				if slab.Free(m) != k {
					t.Fatal("free slabs", slab.Free(m))
				}
				// From the back, so that the last block is the first one of its slab.
				give(t, m, w, l[(i+1)*count(class)-1-j])
			}
			same(t, m, w)
			told(t, m, w)
			if h, e := lists.Get(m, i); h.Class != 0 || h.Live != 0 || h.Free != 0 || e != api.OK || m.Kind(w.at(i), bytesOf) != api.RegSlab {
				t.Fatal("not a free slab", i, h, e)
			}
		}
		other := class%9 + 1
		if at := take(t, m, w, other); at != w.at(2) {
			t.Fatal("the first free slab", at)
		}
		same(t, m, w)
	}
}

// P15.2 (Give): of all offsets the beginnings of live blocks alone can be given; all others change nothing.
func TestGiveErrors(t *testing.T) {
	for _, c := range []api.Config{small, {Slabs: 9, Slots: 302}} {
		m, w := begin(t, c)
		for _, class := range []int{2, 9, 4, 6, 1} {
			for range 2 {
				write(t, m, w, take(t, m, w, class))
			}
		}
		write(t, m, w, take(t, m, w, 2))
		give(t, m, w, w.at(0)+48)
		give(t, m, w, w.at(2))
		live := w.all()
		for at := -3000; at < end(c)+3000; at++ {
			if slices.Contains(live, at) {
				continue
			}
			if e := slab.Give(m, at); e != api.ErrKind {
				t.Fatal(c, at, e)
			}
		}
		for _, at := range extremes() {
			if e := slab.Give(m, at); e != api.ErrKind {
				t.Fatal(c, at, e)
			}
		}
		same(t, m, w)
		for _, at := range live {
			give(t, m, w, at)
			give(t, m, w, at)
		}
		same(t, m, begun(c))
	}
}

// P15.3 (Block): each offset, in blocks live and free, padding and free slabs, and outside.
func TestBlock(t *testing.T) {
	for _, c := range []api.Config{small, {Slabs: 13, Slots: 418}} {
		m, w := begin(t, c)
		for i := range c.Slabs - 1 {
			for range 1 + i%2 {
				take(t, m, w, 1+i%9)
			}
			give(t, m, w, w.at(1))
		}
		for at := -3000; at < end(c)+3000; at++ {
			i, begin, ok := slab.Block(m, at)
			wantI, wantBegin, wantOK := w.where(at)
			if i != wantI || begin != wantBegin || ok != wantOK {
				t.Fatal(c, at, i, begin, ok, "not", wantI, wantBegin, wantOK)
			}
		}
		for _, at := range extremes() {
			if i, begin, ok := slab.Block(m, at); i != 0 || begin != 0 || ok {
				t.Fatal(c, at, i, begin, ok)
			}
		}
		same(t, m, w)
	}
}

// P15.3 (Live, Room): slabs and classes that do not exist have no blocks.
func TestNone(t *testing.T) {
	for _, c := range configs() {
		m, w := begin(t, c)
		for class := 1; class <= 7; class++ {
			take(t, m, w, class)
		}
		for _, i := range outside(0, c.Slabs) {
			if l := slab.Live(m, i); len(l) != 0 {
				t.Error(c, "slab", i, l)
			}
		}
		for _, class := range append(outside(1, 9), 0) {
			if n := slab.Room(m, class); n != 0 {
				t.Error(c, "class", class, n)
			}
		}
		same(t, m, w)
	}
}

// P15.3 (Room): of all slabs of a class, and of no other.
func TestRoom(t *testing.T) {
	m, w := begin(t, small)
	var l []int
	for range 3 * 8 {
		l = append(l, take(t, m, w, 5))
	}
	take(t, m, w, 4)
	for i, at := range []int{l[0], l[1], l[9], l[10], l[11], l[23]} {
		give(t, m, w, at)
		if n := slab.Room(m, 5); n != i+1 || slab.Room(m, 4) != 9 || slab.Room(m, 6) != 0 {
			t.Fatal(i, n)
		}
	}
}

// R3: what Live answers is the caller's.
func TestOwn(t *testing.T) {
	m, w := begin(t, small)
	take(t, m, w, 3)
	take(t, m, w, 3)
	slab.Live(m, 0)[0] = 7
	told(t, m, w)
	same(t, m, w)
}

// R1: a nil memory, and one that no function has made.
func TestNil(t *testing.T) {
	for _, m := range []*memory.Memory{nil, {}} {
		if e := slab.Begin(m); e != api.ErrNil {
			t.Error("begin", e)
		}
		for _, class := range append(outside(1, 9), 0, 1, 5, 9) {
			if at, e := slab.Take(m, class); at != 0 || e != api.ErrNil || slab.Room(m, class) != 0 {
				t.Error("class", class, at, e)
			}
		}
		for _, at := range append(extremes(), -1, 0, 1, 8, 1136) {
			if e := slab.Give(m, at); e != api.ErrNil {
				t.Error("given", at, e)
			}
			if i, begin, ok := slab.Block(m, at); i != 0 || begin != 0 || ok || len(slab.Live(m, at)) != 0 {
				t.Error("block", at, i, begin, ok)
			}
		}
		if slab.Free(m) != 0 || m.Config() != (api.Config{}) || m.Looks() != 0 {
			t.Error("changed")
		}
	}
}

// P15.4: what is done at random, held against the model, step by step; and when all is given back, the memory is as it was at first.
func TestRandom(t *testing.T) {
	for i, c := range configs() {
		next := numbers(uint64(i) + 1)
		m, w := begin(t, c)
		steps := 30000 / c.Slabs
		for step := range steps {
			// Few classes for some time, so that slabs become full; and more blocks are given than taken for some time.
			class, live := next(11), w.all()
			if step/100%2 == 0 {
				class = 7 + next(2)
			}
			switch k := next(10); {
			case k == 0:
				give(t, m, w, next(end(c)+100)-50)
			case len(live) > 0 && (k < 4 || k < 8 && step/300%2 == 1):
				give(t, m, w, live[next(len(live))])
			default:
				if at := take(t, m, w, class); at != 0 {
					write(t, m, w, at)
				}
			}
			same(t, m, w)
			if step%20 == 0 {
				told(t, m, w)
			}
		}
		for live := w.all(); len(live) > 0; live = w.all() {
			give(t, m, w, live[next(len(live))])
		}
		same(t, m, begun(c))
		told(t, m, begun(c))
	}
}

// P15.4: to take a block and to give it back leaves the memory as it was, and so it does with all of them, in whichever order.
func TestBackAndForth(t *testing.T) {
	for i, c := range configs() {
		next := numbers(uint64(i) + 77)
		m, w := begin(t, c)
		for range 3 {
			for class := 1; class <= 9; class++ {
				take(t, m, w, class)
				before := m.Image()
				at := take(t, m, w, class)
				if at != 0 {
					write(t, m, w, at)
					give(t, m, w, at)
				}
				if !bytes.Equal(m.Image(), before) {
					t.Fatal(c, class, at)
				}
			}
			for live := w.all(); len(live) > 0; live = w.all() {
				give(t, m, w, live[next(len(live))])
			}
			same(t, m, begun(c))
		}
	}
}

// R4: two memories have blocks of their own.
func TestIndependent(t *testing.T) {
	a, w := begin(t, small)
	b, x := begin(t, small)
	for range 30 {
		write(t, a, w, take(t, a, w, 2))
	}
	take(t, b, x, 9)
	give(t, a, w, w.at(0)+48)
	same(t, a, w)
	same(t, b, x)
}

// The chapter's examples.
func TestExamples(t *testing.T) {
	m, _ := begin(t, small)
	for _, c := range []struct{ class, at int }{{1, 1136}, {1, 1168}, {9, 2160}} {
		if at, e := slab.Take(m, c.class); at != c.at || e != api.OK {
			t.Error("taken", c, at, e)
		}
	}
	if e := slab.Give(m, 1136); e != api.OK {
		t.Error("given", e)
	}
	if at, e := slab.Take(m, 1); at != 1136 || e != api.OK {
		t.Error("again", at, e)
	}
	m, _ = begin(t, small)
	for k := range 21 {
		if at, e := slab.Take(m, 2); at != 1136+48*k || e != api.OK {
			t.Error(k, at, e)
		}
	}
	if n := slab.Room(m, 2); n != 0 {
		t.Error("room", n)
	}
	if at, e := slab.Take(m, 2); at != 2160 || e != api.OK {
		t.Error("the next one", at, e)
	}
	if slab.Give(m, 1184) != api.OK || slab.Give(m, 1184) != api.ErrKind || slab.Give(m, 1240) != api.ErrKind {
		t.Error("given twice, or inside a block")
	}
}

// P15.2, R1: a slab whose first free block is none, is live, or is no block of the slab has none to be taken; nothing is changed.
func TestStrangeLinks(t *testing.T) {
	for _, free := range []uint32{0, 1, 8, 1135, 1136, 1137, 1140, 1168, 1184 + 16, 2160 - 16, 2160, 2208, 2256, 8304, 1 << 20, 1 << 31, math.MaxUint32} {
		m, w := begin(t, small)
		take(t, m, w, 2)
		for range 22 {
			take(t, m, w, 2)
		}
		// Slab 0 is full, but is said to have a free block; in slab 1 there are some.
		if lists.Set(m, 0, 2, 21, free) != api.OK || lists.Insert(m, 2, 0) != api.OK {
			t.Fatal("set")
		}
		before := m.Image()
		if at, e := slab.Take(m, 2); at != 0 || e != api.ErrFull || !bytes.Equal(m.Image(), before) || m.Faults() != 0 {
			t.Error(free, at, e, m.Faults())
		}
	}
}

// P15.4, R1: a free block whose link is of another kind can't be taken, and its link is not read.
func TestStrangeKinds(t *testing.T) {
	for kind := api.RegNone; kind <= api.RegPad; kind++ {
		m, w := begin(t, small)
		take(t, m, w, 2)
		m.Mark(w.at(0)+48+4, 4, kind)
		before := m.Image()
		at, e := slab.Take(m, 2)
		if kind == api.RegFree {
			if at != w.at(0)+48 || e != api.OK {
				t.Error(kind, at, e)
			}
		} else if at != 0 || e != api.ErrFull || !bytes.Equal(m.Image(), before) {
			t.Error(kind, at, e)
		}
		if m.Faults() != 0 {
			t.Error(kind, "faults", m.Faults())
		}
	}
}

// P15.4, R1: links in a circle take no block twice.
func TestCircle(t *testing.T) {
	m, w := begin(t, small)
	for range 4 {
		take(t, m, w, 4)
	}
	give(t, m, w, w.at(0)+96)
	give(t, m, w, w.at(0))
	// The second free block refers to the first one.
	if !m.Store(w.at(0)+96+4, 4, api.RegFree, uint64(w.at(0))) {
		t.Fatal("store")
	}
	for _, want := range []int{w.at(0), w.at(0) + 96} {
		if at, e := slab.Take(m, 4); at != want || e != api.OK {
			t.Fatal("taken", at, e)
		}
	}
	if at, e := slab.Take(m, 4); at != 0 || e != api.ErrFull || m.Faults() != 0 {
		t.Error("taken twice", at, e, m.Faults())
	}
}

// R1: a slab in the list of another class gives no block of either.
func TestStrangeClass(t *testing.T) {
	m, w := begin(t, small)
	take(t, m, w, 2)
	lists.Remove(m, 2, 0)
	lists.Insert(m, 4, 0)
	before := m.Image()
	if at, e := slab.Take(m, 4); at != 0 || e != api.ErrFull || !bytes.Equal(m.Image(), before) {
		t.Error("taken", at, e)
	}
	if at, e := slab.Take(m, 2); at != w.at(1) || e != api.OK || m.Faults() != 0 {
		t.Error("taken", at, e)
	}
}

// P15.2 (Give), R1: whatever Live of a header was, the live blocks that are left keep their slab.
func TestStrangeLive(t *testing.T) {
	for _, live := range []int{0, 1, 2, 32767, 65535} {
		m, w := begin(t, small)
		l := []int{take(t, m, w, 3), take(t, m, w, 3), take(t, m, w, 3)}
		lists.Set(m, 0, 3, live, uint32(w.at(0)+3*64))
		take(t, m, w, 3)
		same(t, m, w)
		lists.Set(m, 0, 3, live, uint32(w.at(0)+4*64))
		for _, at := range append(l, w.at(0)+3*64) {
			give(t, m, w, at)
			same(t, m, w)
		}
		same(t, m, begun(small))
	}
}

// R1: a slab that somebody has taken out of its list is given back all the same.
func TestOutOfList(t *testing.T) {
	m, w := begin(t, small)
	a, b := take(t, m, w, 3), take(t, m, w, 3)
	if e := lists.Remove(m, 3, 0); e != api.OK {
		t.Fatal(e)
	}
	if at, e := slab.Take(m, 3); at != w.at(1) || e != api.OK {
		t.Fatal("taken", at, e)
	}
	// One that has free blocks is not put back: it was taken out on purpose.
	if e := slab.Give(m, a); e != api.OK || !slices.Equal(lists.All(m, 3), []int{1}) {
		t.Error("given", e, lists.All(m, 3))
	}
	if e := slab.Give(m, b); e != api.OK || slab.Give(m, w.at(1)) != api.OK {
		t.Error("given", e)
	}
	same(t, m, begun(small))
}

// R1: whatever bytes others have written and marked, each call ends, answers what exists, takes no block twice, and touches nothing that it may not.
func TestAnyBytes(t *testing.T) {
	for i, c := range configs() {
		next := numbers(uint64(i) + 99)
		for range 20 {
			b := memory.New(c).Image()
			for at := firsts; at < firsts+40; at += 4 {
				put(b, at, 4, next(c.Slabs+3))
			}
			for slab := range c.Slabs {
				at := headers + header*slab
				put(b, at, 2, next(12))
				put(b, at+2, 2, next(40))
				put(b, at+4, 4, (base(c)+next(bytesOf*c.Slabs+100))/32*32)
				put(b, at+8, 4, next(c.Slabs+3))
				put(b, at+12, 4, next(c.Slabs+3))
			}
			for at := base(c) + 4; at < len(b); at += 16 {
				put(b, at, 4, (base(c)+next(bytesOf*c.Slabs+100))/16*16)
			}
			m, e := memory.From(c, b)
			if e != api.OK {
				t.Fatal(e)
			}
			for at := base(c); at < len(b); at += 16 {
				m.Mark(at, 4*(1+next(4)), 5+next(4))
			}
			wild(t, m, next)
			if slab.Begin(m) != api.OK || slab.Free(m) != c.Slabs {
				t.Fatal("begin")
			}
			for class := 1; class <= 6; class++ {
				at, e := slab.Take(m, class)
				if e != api.OK || !bytes.Equal(m.Read(at, sizes[class], api.RegLive), make([]byte, sizes[class])) || m.Faults() != 0 {
					t.Fatal("after Begin", class, at, e)
				}
			}
		}
	}
}

// wild calls all functions at random.
func wild(t *testing.T, m *memory.Memory, next func(n int) int) {
	t.Helper()
	c := m.Config()
	for range 150 {
		switch next(4) {
		case 0:
			class := 1 + next(9)
			at, e := slab.Take(m, class)
			if e == api.ErrFull && at == 0 {
				continue
			}
			if e != api.OK || at < base(c) || at > end(c)-sizes[class] || m.Kind(at, sizes[class]) != api.RegLive {
				t.Fatal("taken", class, at, e)
			}
			if i, begin, ok := slab.Block(m, at); !ok || begin != at || !slices.Contains(slab.Live(m, i), at) {
				t.Fatal("taken", class, at, begin, ok)
			}
		case 1:
			if l := slab.Live(m, next(c.Slabs)); len(l) > 0 {
				if e := slab.Give(m, l[next(len(l))]); e != api.OK {
					t.Fatal("given", e)
				}
			}
		case 2:
			at := base(c) + next(bytesOf*c.Slabs)/16*16
			_, begin, ok := slab.Block(m, at)
			if e := slab.Give(m, at); e != api.OK && e != api.ErrKind || e == api.OK && (!ok || begin != at) {
				t.Fatal("given", at, e)
			}
		default:
			if n := slab.Room(m, next(10)); n < 0 || n > 32*c.Slabs || slab.Free(m) > c.Slabs {
				t.Fatal("room", n)
			}
		}
	}
	if m.Faults() != 0 {
		t.Fatal("faults", m.Faults())
	}
}

// R1: a memory whose root and headers are of another kind refuses all accesses: each call ends, and nothing is changed.
func TestOtherKinds(t *testing.T) {
	m, w := begin(t, small)
	at := take(t, m, w, 2)
	before := m.Image()
	m.Mark(8, headers+header*small.Slabs-8, api.RegPad)
	slab.Begin(m)
	if _, e := slab.Take(m, 2); e != api.ErrFull {
		t.Error("taken", e)
	}
	if e := slab.Give(m, at); e != api.ErrKind {
		t.Error("given", e)
	}
	if _, _, ok := slab.Block(m, at); ok || len(slab.Live(m, 0)) != 0 || slab.Room(m, 2) != 0 || slab.Free(m) != 0 {
		t.Error("told")
	}
	if !bytes.Equal(m.Image(), before) {
		t.Error("bytes")
	}
}
