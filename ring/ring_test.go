package ring_test

import (
	"bytes"
	"math"
	"slices"
	"testing"

	"columbarium/api"
	"columbarium/head"
	"columbarium/memory"
	"columbarium/ring"
	"columbarium/slab"
)

// Where the root has the hand, the broom and the number of entries, and where an entry has its links, as the chapters 12 and 13 have it.
const (
	handAt  = 60
	broomAt = 64
	countAt = 68
	nextAt  = 8
	prevAt  = 12
)

// small is the smallest configuration: its slabs begin at 1136 and end at 8304.
var small = api.Config{Slabs: 7, Slots: 224}

// configs are the smallest configuration, one with padding ahead of its slabs, and the greatest one.
func configs() []api.Config {
	return []api.Config{small, {Slabs: 8, Slots: 258}, {Slabs: 64, Slots: 8192}}
}

// extremes are ints far beyond a memory's bytes; some are offsets of blocks once their high bits are lost.
func extremes() []int {
	l := []int{math.MinInt, math.MinInt + 1136, math.MaxInt, math.MaxInt - 15}
	for bit := 14; bit < 63; bit++ {
		l = append(l, 1<<bit, 1<<bit+1, 1<<bit+1136, -1<<bit, -1<<bit+1, -1<<bit+1136)
	}
	return l
}

// numbers answers a function that answers numbers below n, the same ones at each start.
func numbers(seed uint64) func(n int) int {
	return func(n int) int {
		seed = seed*6364136223846793005 + 1442695040888963407
		return int(seed>>33) % n
	}
}

// put lays a number of 4 bytes, its lowest byte first.
func put(b []byte, at int, v int) {
	for i := range 4 {
		b[at+i] = byte(v >> (8 * i))
	}
}

// model is what a ring must be.
type model struct {
	l     []int // the entries in it, from that of the hand on
	out   []int // entries that are not in it
	broom int
}

// insert, remove, move, turn and brush are Insert, Remove, Move, Turn and Brush, where these have no error.
func (w *model) insert(at int) {
	if len(w.l) == 0 {
		w.broom = at
	}
	w.l = append(w.l, at)
	w.out = slices.DeleteFunc(w.out, func(x int) bool { return x == at })
}

func (w *model) remove(at int) {
	if w.broom == at {
		w.broom = w.after(at)
	}
	if w.broom == at {
		w.broom = 0
	}
	w.l = slices.DeleteFunc(w.l, func(x int) bool { return x == at })
	w.out = append(w.out, at)
}

func (w *model) move(from int, to int) {
	if i := slices.Index(w.l, from); i >= 0 {
		w.l[i] = to
	}
	if w.broom == from {
		w.broom = to
	}
}

func (w *model) turn() int {
	hand := w.hand()
	if hand != 0 {
		w.l = append(slices.Clone(w.l[1:]), hand)
	}
	return hand
}

func (w *model) brush() int {
	broom := w.broom
	if broom != 0 {
		w.broom = w.after(broom)
	}
	return broom
}

// hand answers the entry at which the hand is.
func (w *model) hand() int {
	if len(w.l) == 0 {
		return 0
	}
	return w.l[0]
}

// after answers the entry that follows one.
func (w *model) after(at int) int { return w.l[(slices.Index(w.l, at)+1)%len(w.l)] }

// image answers an image that is like another one in all but the ring.
func (w *model) image(like []byte) []byte {
	b := slices.Clone(like)
	put(b, handAt, w.hand())
	put(b, broomAt, w.broom)
	put(b, countAt, len(w.l))
	for _, at := range w.out {
		put(b, at+nextAt, 0)
		put(b, at+prevAt, 0)
	}
	for _, at := range w.l {
		put(b, at+nextAt, w.after(at))
		put(b, w.after(at)+prevAt, at)
	}
	return b
}

// same holds all that a memory tells of its ring against a model, and its other bytes against those that it had before.
func same(t *testing.T, m *memory.Memory, w *model, before []byte) {
	t.Helper()
	if hand, broom := ring.Hand(m), ring.Broom(m); hand != w.hand() || broom != w.broom {
		t.Fatal("the hand at", hand, "not", w.hand(), "and the broom at", broom, "not", w.broom)
	}
	if l := ring.All(m); !slices.Equal(l, w.l) {
		t.Fatal("all are", l, "not", w.l)
	}
	if n := ring.Len(m); n != len(w.l) {
		t.Fatal("there are", n, "not", len(w.l))
	}
	if !bytes.Equal(m.Image(), w.image(before)) {
		t.Fatal("other bytes", w.l)
	}
	if m.Faults() != 0 {
		t.Fatal("faults", m.Faults())
	}
}

// begin answers a memory with free slabs and an empty ring.
func begin(t *testing.T, c api.Config) *memory.Memory {
	t.Helper()
	m := memory.New(c)
	if e := slab.Begin(m); e != api.OK {
		t.Fatal("slabs", e)
	}
	if e := ring.Begin(m); e != api.OK {
		t.Fatal("ring", e)
	}
	return m
}

// take takes a block.
func take(t *testing.T, m *memory.Memory, class int) int {
	t.Helper()
	at, e := slab.Take(m, class)
	if e != api.OK {
		t.Fatal("taken", class, e)
	}
	return at
}

// lay lays a header.
func lay(t *testing.T, m *memory.Memory, at int, b api.Block) {
	t.Helper()
	if e := head.Put(m, at, b); e != api.OK {
		t.Fatal("laid", at, e)
	}
}

// entry answers a new entry, none of whose bytes is 0 but those of its label's length and of its links.
func entry(t *testing.T, m *memory.Memory, class int) int {
	t.Helper()
	at := take(t, m, class)
	for i := range sizes[class] {
		m.Store(at+i, 1, api.RegLive, uint64(2+i%250))
	}
	lay(t, m, at, api.Block{Tag: api.TagEntry, Class: class, Used: true, Name: 0x8090a0b0, Expiry: 0x1112131415161718, Type: 0x2122, Size: 0x131, Hash: 0x31323334})
	return at
}

// sizes are the sizes of blocks, by their class.
var sizes = [...]int{0, 32, 48, 64, 96, 128, 192, 256, 384, 512}

// insert inserts an entry in a memory and in its model.
func insert(t *testing.T, m *memory.Memory, w *model, at int) {
	t.Helper()
	if e := ring.Insert(m, at); e != api.OK {
		t.Fatal("inserted", at, e)
	}
	w.insert(at)
}

// filled answers a memory with a ring of n entries of different classes, and its model.
func filled(t *testing.T, n int) (*memory.Memory, *model) {
	t.Helper()
	m, w := begin(t, small), &model{}
	for i := range n {
		insert(t, m, w, entry(t, m, 1+i%3))
	}
	return m, w
}

// turned is such a ring with the hand and the broom at other entries.
func turned(t *testing.T, n int, hand int, broom int) (*memory.Memory, *model) {
	t.Helper()
	m, w := filled(t, n)
	for range hand {
		ring.Turn(m)
		w.turn()
	}
	for range broom {
		ring.Brush(m)
		w.brush()
	}
	return m, w
}

// again answers a memory with the bytes and the kinds of another one.
func again(t *testing.T, m *memory.Memory) *memory.Memory {
	t.Helper()
	x, e := memory.From(m.Config(), m.Image())
	if e != api.OK {
		t.Fatal("from", e)
	}
	for _, r := range m.Runs() {
		x.Mark(r.At, r.Len, r.Kind)
	}
	return x
}

// everyRing visits rings of 1 to 5 entries, with the hand and the broom at each of them.
func everyRing(t *testing.T, visit func(m *memory.Memory, w *model)) {
	t.Helper()
	for n := 1; n <= 5; n++ {
		for i := range n * n {
			visit(turned(t, n, i/n, i%n))
		}
	}
}

// P17.1 (Begin): whatever the three fields were, they are 0, and nothing else is changed.
func TestBegin(t *testing.T) {
	for _, c := range configs() {
		b := memory.New(c).Image()
		for i := 20; i < len(b); i++ {
			b[i] = byte(i*37 + i/251 + 1)
		}
		m, e := memory.From(c, b)
		if e != api.OK {
			t.Fatal("from", e)
		}
		if e := ring.Begin(m); e != api.OK {
			t.Fatal("begin", e)
		}
		same(t, m, &model{}, b)
	}
}

// P17.1 (Begin): the entries that were in a ring keep their links, so they are not to be inserted before these are 0.
func TestBeginAgain(t *testing.T) {
	m, w := filled(t, 4)
	kept, before := w.l, m.Image()
	if e := ring.Begin(m); e != api.OK {
		t.Fatal("begin", e)
	}
	same(t, m, &model{}, before)
	for _, at := range kept {
		if e := ring.Insert(m, at); e != api.ErrState {
			t.Error("inserted", at, e)
		}
	}
	for _, at := range kept {
		head.Store(m, at, api.FieldNext, 0)
		head.Store(m, at, api.FieldPrev, 0)
	}
	w = &model{out: slices.Clone(kept)}
	for _, at := range kept {
		insert(t, m, w, at)
		same(t, m, w, before)
	}
}

// P17.1 (rings): before Begin a memory's ring is empty.
func TestNew(t *testing.T) {
	m := memory.New(small)
	same(t, m, &model{}, m.Image())
}

// P17.1 (rings): the fields and the links, byte by byte.
func TestBytes(t *testing.T) {
	m := begin(t, small)
	for range 3 {
		at := take(t, m, 1)
		lay(t, m, at, api.Block{Tag: api.TagEntry, Class: 1})
		if e := ring.Insert(m, at); e != api.OK {
			t.Fatal(e)
		}
	}
	if b := m.Image()[60:72]; !bytes.Equal(b, []byte{112, 4, 0, 0, 112, 4, 0, 0, 3, 0, 0, 0}) {
		t.Error("the root", b)
	}
	if b := m.Image()[1144:1152]; !bytes.Equal(b, []byte{144, 4, 0, 0, 176, 4, 0, 0}) {
		t.Error("the first", b)
	}
	if b := m.Image()[1176:1184]; !bytes.Equal(b, []byte{176, 4, 0, 0, 112, 4, 0, 0}) {
		t.Error("the second", b)
	}
	if b := m.Image()[1208:1216]; !bytes.Equal(b, []byte{112, 4, 0, 0, 144, 4, 0, 0}) {
		t.Error("the third", b)
	}
}

// P17.2 (Insert): directly before that of the hand, wherever the hand and the broom are; and in an empty ring it is that of both.
func TestInsert(t *testing.T) {
	m, w := filled(t, 0)
	at := entry(t, m, 9)
	before := m.Image()
	insert(t, m, w, at)
	same(t, m, w, before)
	if ring.Hand(m) != at || ring.Broom(m) != at {
		t.Error("the only one", ring.Hand(m), ring.Broom(m))
	}
	everyRing(t, func(m *memory.Memory, w *model) {
		for range 3 {
			at := entry(t, m, 2)
			before := m.Image()
			insert(t, m, w, at)
			same(t, m, w, before)
		}
	})
}

// P17.2 (Insert): entries of each class, and whatever their Prev is, if their Next is 0.
func TestInsertAny(t *testing.T) {
	for class := 1; class <= 9; class++ {
		m, w := filled(t, 0)
		for i := range 4 {
			at := entry(t, m, class)
			before := m.Image()
			head.Store(m, at, api.FieldPrev, []uint64{0, 1, uint64(at), 1136}[i])
			insert(t, m, w, at)
			same(t, m, w, before)
		}
	}
	// A predecessor of old may be an entry as well.
	m, w := filled(t, 0)
	other, at := entry(t, m, 1), entry(t, m, 1)
	head.Store(m, at, api.FieldPrev, uint64(other))
	before := m.Image()
	insert(t, m, w, at)
	same(t, m, w, before)
}

// P17.1 (rings): an entry is a live block with TagEntry; that the rest of its header is not valid yet does not matter.
func TestInsertTagAlone(t *testing.T) {
	m, w := filled(t, 0)
	for range 3 {
		at := take(t, m, 3)
		head.Store(m, at, api.FieldTag, api.TagEntry)
		before := m.Image()
		insert(t, m, w, at)
		same(t, m, w, before)
	}
}

// P17.2 (Insert): an entry that is in the ring, be it alone or not, is not inserted again.
func TestInsertState(t *testing.T) {
	everyRing(t, func(m *memory.Memory, w *model) {
		before := m.Image()
		for _, at := range w.l {
			if e := ring.Insert(m, at); e != api.ErrState {
				t.Fatal("inserted", at, e)
			}
			same(t, m, w, before)
		}
	})
	m, w := filled(t, 2)
	at := entry(t, m, 1)
	head.Store(m, at, api.FieldNext, 1<<24)
	before := m.Image()
	if e := ring.Insert(m, at); e != api.ErrState {
		t.Error("inserted with a successor", e)
	}
	same(t, m, w, before)
}

// noEntries answers offsets of a memory that has some blocks, at which there is no entry.
func noEntries(t *testing.T, m *memory.Memory) []int {
	t.Helper()
	node := take(t, m, 2)
	lay(t, m, node, api.Block{Tag: api.TagNode, Class: 2, Label: 7, Name: 1, Refs: 1, Hash: 1})
	blank := take(t, m, 2)
	strange := take(t, m, 2)
	m.Store(strange, 1, api.RegLive, 3)
	m.Store(strange+8, 4, api.RegLive, 1)
	free := take(t, m, 2)
	lay(t, m, free, api.Block{Tag: api.TagEntry, Class: 2, Next: 1136})
	slab.Give(m, free)
	l := append(extremes(), -32, -16, -1, 0, 8, 16, 64, 128, 240, 1120, 8304, 8320, 1<<20)
	return append(l, node, node+16, blank, blank+16, strange, free, free+16, 8304-16, 8304-32, 8304-1024)
}

// refused holds that there is no entry at an offset.
func refused(t *testing.T, m *memory.Memory, at int) {
	t.Helper()
	if e := ring.Insert(m, at); e != api.ErrKind {
		t.Error("inserted", at, e)
	}
	if e := ring.Remove(m, at); e != api.ErrKind {
		t.Error("removed", at, e)
	}
	for _, from := range []int{ring.Hand(m), at, 0} {
		if e := ring.Move(m, from, at); e != api.ErrKind {
			t.Error("moved", from, at, e)
		}
	}
}

// P17.2 (Insert, Remove), P17.3 (Move): where there is no entry.
func TestKind(t *testing.T) {
	m, w := turned(t, 3, 1, 2)
	l := noEntries(t, m)
	before := m.Image()
	for _, at := range l {
		refused(t, m, at)
	}
	same(t, m, w, before)
}

// P17.2 (Insert, Remove), P17.3 (Move): inside of an entry there is none, though its bytes may be 1 everywhere.
func TestInside(t *testing.T) {
	m, w := filled(t, 2)
	for range 2 {
		lay(t, m, take(t, m, 1), api.Block{Tag: api.TagEntry, Class: 1, Used: true, Name: 0x01010101, Type: 0x0101, Size: 0x101, Hash: 0x01010101})
	}
	before := m.Image()
	for at := range len(before) {
		if at%16 != 0 {
			refused(t, m, at)
		}
	}
	same(t, m, w, before)
}

// P17.1 (rings), R1: a header that is not live as a whole is no entry's.
func TestPartly(t *testing.T) {
	for i := 0; i < 32; i += 4 {
		m, w := filled(t, 2)
		at := entry(t, m, 2)
		if e := m.Mark(at+i, 4, api.RegFree); e != api.OK {
			t.Fatal(e)
		}
		before := m.Image()
		refused(t, m, at)
		same(t, m, w, before)
	}
}

// P17.2 (Remove): each entry, with the hand and the broom at each, up to the last one.
func TestRemove(t *testing.T) {
	everyRing(t, func(m *memory.Memory, w *model) {
		n := len(w.l)
		for first := range n {
			x, v := again(t, m), &model{l: slices.Clone(w.l), broom: w.broom}
			before := x.Image()
			for i := n; i > 0; i-- {
				at := v.l[first%i]
				if e := ring.Remove(x, at); e != api.OK {
					t.Fatal("removed", at, e)
				}
				v.remove(at)
				same(t, x, v, before)
			}
		}
	})
}

// P17.2 (Remove): the chapter's example: the broom at the third of five entries.
func TestRemoveExample(t *testing.T) {
	m, w := turned(t, 5, 0, 2)
	if ring.Broom(m) != w.l[2] || ring.Remove(m, w.l[2]) != api.OK || ring.Broom(m) != w.l[3] || ring.Hand(m) != w.l[0] {
		t.Error("the broom at", ring.Broom(m))
	}
}

// P17.2 (Remove): entries that are not in the ring; one that was removed can be inserted again, as the last one.
func TestRemoveNone(t *testing.T) {
	m, w := filled(t, 4)
	at := entry(t, m, 1)
	before := m.Image()
	if e := ring.Remove(m, at); e != api.ErrNone {
		t.Error("removed what was never inserted", e)
	}
	same(t, m, w, before)
	for _, at := range slices.Clone(w.l) {
		for range 3 {
			if e := ring.Remove(m, at); e != api.OK {
				t.Error("removed", e)
			}
			w.remove(at)
			if e := ring.Remove(m, at); e != api.ErrNone {
				t.Error("removed again", e)
			}
			same(t, m, w, before)
			insert(t, m, w, at)
			same(t, m, w, before)
		}
	}
}

// copied copies an entry's bytes to a new block of its class.
func copied(t *testing.T, m *memory.Memory, from int) int {
	t.Helper()
	class := int(head.Load(m, from, api.FieldClass))
	to := take(t, m, class)
	if !m.Write(to, m.Read(from, sizes[class], api.RegLive), api.RegLive) {
		t.Fatal("copied", from, to)
	}
	return to
}

// P17.3 (Move): each entry, with the hand and the broom at each: its neighbours, the hand and the broom follow, and nothing else is changed.
func TestMove(t *testing.T) {
	everyRing(t, func(m *memory.Memory, w *model) {
		for _, from := range slices.Clone(w.l) {
			to := copied(t, m, from)
			before := m.Image()
			if e := ring.Move(m, from, to); e != api.OK {
				t.Fatal("moved", from, to, e)
			}
			w.move(from, to)
			same(t, m, w, before)
		}
	})
}

// P17.3 (Move): the block at from is not accessed: it may be given back, padding, or an entry that lies there by now.
func TestMoveFromAnything(t *testing.T) {
	what := []func(t *testing.T, m *memory.Memory, from int){
		func(t *testing.T, m *memory.Memory, from int) {
			if e := slab.Give(m, from); e != api.OK {
				t.Fatal("given", e)
			}
		},
		func(t *testing.T, m *memory.Memory, from int) { m.Zero(from, 32, api.RegLive) },
		func(t *testing.T, m *memory.Memory, from int) { m.Mark(from, 32, api.RegPad) },
		func(t *testing.T, m *memory.Memory, from int) { m.Mark(from, 32, api.RegNone) },
		func(t *testing.T, m *memory.Memory, from int) {
			lay(t, m, from, api.Block{Tag: api.TagEntry, Class: 1, Next: uint32(from), Prev: uint32(from)})
		},
		func(t *testing.T, m *memory.Memory, from int) {
			lay(t, m, from, api.Block{Tag: api.TagNode, Class: 1, Label: 1, Refs: uint32(from), Hash: uint32(from)})
		},
	}
	for _, become := range what {
		everyRing(t, func(m *memory.Memory, w *model) {
			for _, from := range slices.Clone(w.l) {
				to := copied(t, m, from)
				become(t, m, from)
				before, looks := m.Image(), m.Looks()
				if e := ring.Move(m, from, to); e != api.OK {
					t.Fatal("moved", from, to, e)
				}
				if m.Looks() == looks {
					t.Fatal("nothing was looked at")
				}
				w.move(from, to)
				same(t, m, w, before)
			}
		})
	}
}

// P17.3 (Move): whatever lies at from, as much is looked at and the same is stored, though links of to be wrong.
func TestMoveLooksNotAtFrom(t *testing.T) {
	everyRing(t, func(m *memory.Memory, w *model) {
		from := w.l[len(w.l)/2]
		to := copied(t, m, from)
		for _, field := range []int{api.FieldHash, api.FieldNext, api.FieldPrev} {
			x := again(t, m)
			head.Store(x, to, field, uint64(from))
			y := again(t, x)
			y.Mark(from, 32, api.RegNone)
			before := x.Looks()
			if e, f := ring.Move(x, from, to), ring.Move(y, from, to); e != api.OK || f != api.OK {
				t.Fatal("moved", e, f)
			}
			if n := x.Looks() - before; n != y.Looks() || !bytes.Equal(x.Image(), y.Image()) || y.Faults() != 0 {
				t.Fatal("field", field, "looks", n, y.Looks(), "faults", y.Faults())
			}
		}
	})
}

// P17.3 (Move): what does not refer to from stays, wherever from is.
func TestMoveFromElsewhere(t *testing.T) {
	everyRing(t, func(m *memory.Memory, w *model) {
		out := entry(t, m, 1)
		before := m.Image()
		for _, to := range w.l {
			for _, from := range append(extremes(), -1, 0, 1, 8, 64, out, to, to+1, to+16, 8303, 8304) {
				if e := ring.Move(m, from, to); e != api.OK {
					t.Fatal("moved", from, to, e)
				}
			}
			same(t, m, w, before)
		}
	})
}

// P17.3 (Move): 0 is no entry, so nothing refers to it, though the hand and the broom are at none.
func TestMoveFromNone(t *testing.T) {
	m, w := filled(t, 0)
	at := entry(t, m, 1)
	head.Store(m, at, api.FieldNext, uint64(at))
	before := m.Image()
	if e := ring.Move(m, 0, at); e != api.OK {
		t.Error("moved", e)
	}
	same(t, m, w, before)
}

// P17.3 (Move): an entry that is not in the ring is not moved.
func TestMoveNone(t *testing.T) {
	m, w := filled(t, 3)
	at := entry(t, m, 2)
	before := m.Image()
	for _, from := range append(w.l, at, 0, -1) {
		if e := ring.Move(m, from, at); e != api.ErrNone {
			t.Error("moved", from, e)
		}
	}
	same(t, m, w, before)
}

// P17.3 (Turn, Brush): each goes round on its own, and changes nothing but itself.
func TestTurnAndBrush(t *testing.T) {
	everyRing(t, func(m *memory.Memory, w *model) {
		before := m.Image()
		for i := range 12 {
			if at, want := ring.Turn(m), w.turn(); at != want {
				t.Fatal("the hand was at", at, "not", want)
			}
			same(t, m, w, before)
			for range i % 3 {
				if at, want := ring.Brush(m), w.brush(); at != want {
					t.Fatal("the broom was at", at, "not", want)
				}
				same(t, m, w, before)
			}
		}
	})
}

// P17.3 (Turn, Brush): the chapter's example, and an empty ring.
func TestTurnAndBrushExample(t *testing.T) {
	m, w := filled(t, 5)
	if ring.Turn(m) != w.l[0] || ring.Brush(m) != w.l[0] || ring.Brush(m) != w.l[1] {
		t.Error("the hand at", ring.Hand(m), "and the broom at", ring.Broom(m))
	}
	m, w = filled(t, 0)
	entry(t, m, 1)
	before := m.Image()
	for range 3 {
		if ring.Turn(m) != 0 || ring.Brush(m) != 0 {
			t.Error("an empty ring has been turned")
		}
		same(t, m, w, before)
	}
}

// P17.3 (All): what All answers belongs to the caller.
func TestAllIsNew(t *testing.T) {
	m, w := filled(t, 5)
	before := m.Image()
	l, other := ring.All(m), ring.All(m)
	clear(l)
	l = append(l[:2], 1, 2, 3, 4)
	if len(l) != 6 || !slices.Equal(other, w.l) {
		t.Error("lists that share memory", other)
	}
	same(t, m, w, before)
}

// P17.3 (Len, All): as many entries as there may be blocks.
func TestMany(t *testing.T) {
	m, w := begin(t, api.Config{Slabs: 64, Slots: 2048}), &model{}
	for range 64 * 32 {
		at := take(t, m, 1)
		lay(t, m, at, api.Block{Tag: api.TagEntry, Class: 1})
		insert(t, m, w, at)
	}
	before := m.Image()
	same(t, m, w, before)
	for range 1000 {
		if ring.Turn(m) != w.turn() {
			t.Fatal("turned")
		}
	}
	same(t, m, w, before)
	for i, at := range slices.Clone(w.l) {
		if i%3 != 0 {
			if e := ring.Remove(m, at); e != api.OK {
				t.Fatal("removed", e)
			}
			w.remove(at)
		}
	}
	same(t, m, w, before)
}

// P17.4: an entry that is inserted is the last one in All; as many turns as there are entries lead back to the hand.
func TestConsequences(t *testing.T) {
	everyRing(t, func(m *memory.Memory, w *model) {
		hand, broom := ring.Hand(m), ring.Broom(m)
		for range ring.Len(m) {
			ring.Turn(m)
			ring.Brush(m)
		}
		if ring.Hand(m) != hand || ring.Broom(m) != broom {
			t.Fatal("not back at the hand or the broom")
		}
		at := entry(t, m, 1)
		insert(t, m, w, at)
		if l := ring.All(m); l[len(l)-1] != at || ring.Hand(m) != hand || ring.Broom(m) != broom {
			t.Fatal("not the last one", at, l)
		}
	})
}

// P17.4: a moved entry keeps its place among the others.
func TestMovedKeepsPlace(t *testing.T) {
	everyRing(t, func(m *memory.Memory, w *model) {
		for i := range ring.Len(m) {
			l := ring.All(m)
			to := copied(t, m, l[i])
			if e := ring.Move(m, l[i], to); e != api.OK {
				t.Fatal("moved", e)
			}
			l[i] = to
			if got := ring.All(m); !slices.Equal(got, l) {
				t.Fatal("all are", got, "not", l)
			}
		}
	})
}

// P17.1 to P17.4: what is done at random, held against the model, step by step.
func TestRandom(t *testing.T) {
	for _, c := range configs() {
		next := numbers(uint64(c.Slabs))
		m, w := begin(t, c), &model{}
		for range 20 {
			w.out = append(w.out, entry(t, m, 1+next(3)))
		}
		for range 2000 {
			before := step(t, m, w, next)
			same(t, m, w, before)
		}
	}
}

// step does something to a ring and to its model, and answers the bytes ahead of it.
func step(t *testing.T, m *memory.Memory, w *model, next func(n int) int) []byte {
	t.Helper()
	before := m.Image()
	what := next(6)
	switch {
	case what == 0:
		if ring.Turn(m) != w.turn() {
			t.Fatal("turned")
		}
	case what == 1:
		if ring.Brush(m) != w.brush() {
			t.Fatal("brushed")
		}
	case what < 4 && len(w.out) > 0:
		insert(t, m, w, w.out[next(len(w.out))])
	case what == 4 && len(w.l) > 0:
		at := w.l[next(len(w.l))]
		if e := ring.Remove(m, at); e != api.OK {
			t.Fatal("removed", e)
		}
		w.remove(at)
	case len(w.l) > 0:
		from := w.l[next(len(w.l))]
		to := copied(t, m, from)
		if e := slab.Give(m, from); e != api.OK {
			t.Fatal("given", e)
		}
		before = m.Image()
		if e := ring.Move(m, from, to); e != api.OK {
			t.Fatal("moved", e)
		}
		w.move(from, to)
	}
	return before
}

// The chapter's example at its end.
func TestExample(t *testing.T) {
	m := begin(t, small)
	a, b, c, d := entry(t, m, 1), entry(t, m, 2), entry(t, m, 1), entry(t, m, 3)
	for _, at := range []int{a, b, c} {
		ring.Insert(m, at)
	}
	if l := ring.All(m); !slices.Equal(l, []int{a, b, c}) {
		t.Error("three", l)
	}
	if ring.Turn(m) != a || ring.Insert(m, d) != api.OK {
		t.Error("turned, and inserted a fourth")
	}
	if l := ring.All(m); !slices.Equal(l, []int{b, c, a, d}) {
		t.Error("four", l)
	}
}

// R1: a nil memory, and one that package memory has not made, have no ring. That is told ahead of all else.
func TestNil(t *testing.T) {
	for _, m := range []*memory.Memory{nil, {}} {
		if e := ring.Begin(m); e != api.ErrNil {
			t.Error("begin", e)
		}
		for _, at := range append(extremes(), -1, 0, 8, 1136) {
			if e := ring.Insert(m, at); e != api.ErrNil {
				t.Error("inserted", at, e)
			}
			if e := ring.Remove(m, at); e != api.ErrNil {
				t.Error("removed", at, e)
			}
			if e := ring.Move(m, at, at); e != api.ErrNil {
				t.Error("moved", at, e)
			}
		}
		if ring.Hand(m) != 0 || ring.Broom(m) != 0 || ring.Turn(m) != 0 || ring.Brush(m) != 0 || ring.Len(m) != 0 || len(ring.All(m)) != 0 {
			t.Error("a ring of no memory")
		}
	}
}

// R4: the rings of two memories are independent of each other.
func TestIndependent(t *testing.T) {
	m, w := turned(t, 4, 1, 2)
	x, v := turned(t, 5, 2, 1)
	before := x.Image()
	insert(t, m, w, entry(t, m, 3))
	ring.Turn(m)
	ring.Brush(m)
	ring.Remove(m, ring.Hand(m))
	same(t, x, v, before)
}

// R1: links that others have written in a circle without the hand: All ends, and has no entry twice.
func TestCircle(t *testing.T) {
	m, w := filled(t, 5)
	head.Store(m, w.l[4], api.FieldNext, uint64(w.l[2]))
	if l := ring.All(m); !slices.Equal(l, w.l) {
		t.Error("all are", l)
	}
	m.SetRoot(api.RootEntries, math.MaxUint32)
	head.Store(m, w.l[1], api.FieldNext, uint64(w.l[1]))
	if l := ring.All(m); !slices.Equal(l, w.l[:2]) {
		t.Error("all are", l)
	}
	if e := ring.Insert(m, entry(t, m, 1)); e != api.OK || ring.Len(m) != math.MaxUint32 {
		t.Error("inserted", e, ring.Len(m))
	}
	m.SetRoot(api.RootEntries, 0)
	if e := ring.Remove(m, w.l[0]); e != api.OK || ring.Len(m) != 0 {
		t.Error("removed", e, ring.Len(m))
	}
	if m.Faults() != 0 {
		t.Error("faults", m.Faults())
	}
}

// R1: a hand and a broom that others have written, and links, that lead to no entry: each call ends, none is a fault, and what is inserted is in the ring.
func TestNowhere(t *testing.T) {
	x, _ := filled(t, 3)
	for _, to := range append(noEntries(t, x), math.MaxUint32) {
		if to < 0 || to > math.MaxUint32 {
			continue
		}
		m, w := filled(t, 3)
		noEntries(t, m)
		m.SetRoot(api.RootHand, uint64(to))
		m.SetRoot(api.RootBroom, uint64(to))
		if ring.Hand(m) != 0 || ring.Broom(m) != 0 || ring.Turn(m) != 0 || ring.Brush(m) != 0 || len(ring.All(m)) != 0 {
			t.Error("a hand or a broom at no entry", to)
		}
		at := entry(t, m, 1)
		if ring.Insert(m, at) != api.OK || ring.Hand(m) != at || !slices.Equal(ring.All(m), []int{at}) {
			t.Error("inserted", to, ring.All(m))
		}
		m, w = filled(t, 3)
		noEntries(t, m)
		for _, at := range w.l {
			head.Store(m, at, api.FieldNext, uint64(to))
			head.Store(m, at, api.FieldPrev, uint64(to))
		}
		if ring.Turn(m) != w.l[0] || ring.Brush(m) != w.l[0] || ring.Hand(m) != w.l[0] || !slices.Equal(ring.All(m), w.l[:1]) {
			t.Error("links to no entry", to)
		}
		ring.Move(m, w.l[1], w.l[2])
		ring.Remove(m, w.l[0])
		ring.Insert(m, entry(t, m, 1))
		if m.Faults() != 0 {
			t.Error("faults", to, m.Faults())
		}
	}
}

// wild writes something into a memory that may break its ring.
func wild(m *memory.Memory, l []int, next func(n int) int) {
	at, v := l[next(len(l))], uint64(l[next(len(l))])
	if next(8) == 0 {
		v = uint64(next(8400))
	}
	switch next(8) {
	case 0:
		m.SetRoot(api.RootHand+next(2), v)
	case 1:
		m.SetRoot(api.RootEntries, uint64(next(2))*math.MaxUint32)
	case 2:
		head.Store(m, at, api.FieldTag, uint64(next(4)))
	case 3:
		m.Mark(at, 32, api.RegFree+next(2))
	case 4, 5:
		m.Mark(at, 32, api.RegLive)
		head.Store(m, at, api.FieldTag, api.TagEntry)
	default:
		head.Store(m, at, api.FieldNext+next(2), v)
	}
}

// R1: whatever others have written, each call ends, none panics, none is a fault, and All has no entry twice.
func TestAnyBytes(t *testing.T) {
	for seed := range uint64(40) {
		next := numbers(seed)
		m, w := filled(t, 12)
		for range 300 {
			wild(m, w.l, next)
			faults := m.Faults()
			from, to := w.l[next(12)], w.l[next(12)]
			switch next(6) {
			case 0:
				ring.Insert(m, to)
			case 1:
				ring.Remove(m, to)
			case 2:
				ring.Move(m, from, to)
			default:
				ring.Turn(m)
				ring.Brush(m)
			}
			l := ring.All(m)
			slices.Sort(l)
			if n := len(l); n != len(slices.Compact(l)) || m.Faults() != faults {
				t.Fatal("an entry twice, or a fault", l)
			}
		}
	}
}

// P17.1, R1: where the root was marked as another kind, nothing is stored there, and all calls end.
func TestOtherKinds(t *testing.T) {
	m, w := filled(t, 3)
	before := m.Image()
	m.Mark(handAt, 12, api.RegPad)
	if ring.Hand(m) != 0 || ring.Broom(m) != 0 || ring.Turn(m) != 0 || ring.Brush(m) != 0 || ring.Len(m) != 0 || len(ring.All(m)) != 0 {
		t.Error("a ring without its fields")
	}
	ring.Begin(m)
	ring.Insert(m, entry(t, m, 1))
	ring.Move(m, w.l[0], w.l[1])
	ring.Remove(m, w.l[2])
	if b := m.Image()[handAt : countAt+4]; !bytes.Equal(b, before[handAt:countAt+4]) {
		t.Error("the fields", b)
	}
}
