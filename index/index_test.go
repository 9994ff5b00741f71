package index_test

import (
	"bytes"
	"math"
	"slices"
	"strings"
	"testing"

	"columbarium/api"
	"columbarium/head"
	"columbarium/index"
	"columbarium/memory"
	"columbarium/probe"
	"columbarium/slab"
)

// small is the smallest configuration: its slots begin at 240, its slabs at 1136, and these end at 8304.
var small = api.Config{Slabs: 7, Slots: 224}

// wide has more slots, and padding ahead of its slabs: its slots begin at 256, its slabs at 1296.
var wide = api.Config{Slabs: 8, Slots: 258}

// slotsAt are where the slots begin, by the number of slabs, as the chapter 9 has it.
var slotsAt = map[int]int{7: 240, 8: 256, 64: 1152}

// configs are the smallest configuration, one with padding ahead of its slabs, and the greatest one.
func configs() []api.Config {
	return []api.Config{small, wide, {Slabs: 64, Slots: 8192}}
}

// sizes are the sizes of blocks, by their class.
var sizes = [...]int{0, 32, 48, 64, 96, 128, 192, 256, 384, 512}

// extremes are ints far beyond a memory's bytes; some are offsets of blocks once their high bits are lost.
func extremes() []int {
	l := []int{math.MinInt, math.MinInt + 1136, math.MaxInt, math.MaxInt - 15}
	for bit := 14; bit < 63; bit++ {
		l = append(l, 1<<bit, 1<<bit+1, 1<<bit+1136, -1<<bit, -1<<bit+1, -1<<bit+1136)
	}
	return l
}

// numbers answers a function that answers numbers below n, the same ones at each start.
func numbers(seed uint64) func(n int) int {
	return func(n int) int {
		seed = seed*6364136223846793005 + 1442695040888963407
		return int(seed>>33) % n
	}
}

// begin answers a memory with free slabs and an empty index.
func begin(t *testing.T, c api.Config) *memory.Memory {
	t.Helper()
	m := memory.New(c)
	if e := slab.Begin(m); e != api.OK {
		t.Fatal("slabs", e)
	}
	if e := index.Begin(m); e != api.OK {
		t.Fatal("index", e)
	}
	return m
}

// take takes a block, and has none of its bytes be 0 but what would make its header wrong.
func take(t *testing.T, m *memory.Memory, class int) int {
	t.Helper()
	at, e := slab.Take(m, class)
	if e != api.OK {
		t.Fatal("taken", class, e)
	}
	for i := range sizes[class] {
		m.Store(at+i, 1, api.RegLive, uint64(2+i%250))
	}
	return at
}

// lay lays a header.
func lay(t *testing.T, m *memory.Memory, at int, b api.Block) {
	t.Helper()
	if e := head.Put(m, at, b); e != api.OK {
		t.Fatal("laid", at, b, e)
	}
}

// entry answers a new entry.
func entry(t *testing.T, m *memory.Memory, name uint32, typ uint16, hash uint32) int {
	t.Helper()
	at := take(t, m, 1)
	lay(t, m, at, api.Block{Tag: api.TagEntry, Class: 1, Used: true, Name: name, Next: 1, Prev: 2, Expiry: 1 << 40, Type: typ, Size: 300, Hash: hash})
	return at
}

// node answers a new node.
func node(t *testing.T, m *memory.Memory, parent uint32, label string, hash uint32) int {
	t.Helper()
	class := slices.IndexFunc(sizes[:], func(size int) bool { return size >= 16+len(label) })
	at := take(t, m, class)
	lay(t, m, at, api.Block{Tag: api.TagNode, Class: class, Label: len(label), Name: parent, Refs: 1 << 31, Hash: hash})
	if !m.Write(at+16, []byte(label), api.RegLive) {
		t.Fatal("written", at, label)
	}
	return at
}

// block answers a new entry or a new node, one after the other, that no other one of the test is found by.
func block(t *testing.T, m *memory.Memory, i int, hash uint32) int {
	t.Helper()
	if i%3 == 2 {
		return node(t, m, uint32(i), "label", hash)
	}
	return entry(t, m, uint32(i), uint16(i), hash)
}

// blocks answers new blocks with some hashes.
func blocks(t *testing.T, m *memory.Memory, hashes ...uint32) []int {
	t.Helper()
	var l []int
	for i, hash := range hashes {
		l = append(l, block(t, m, i, hash))
	}
	return l
}

// inserted answers a memory with an index of new blocks with some hashes, and these blocks.
func inserted(t *testing.T, c api.Config, hashes ...uint32) (*memory.Memory, []int) {
	t.Helper()
	m := begin(t, c)
	l := blocks(t, m, hashes...)
	for _, at := range l {
		insert(t, m, at)
	}
	return m, l
}

// insert inserts a block.
func insert(t *testing.T, m *memory.Memory, at int) {
	t.Helper()
	if e := index.Insert(m, at); e != api.OK {
		t.Fatal("inserted", at, e)
	}
}

// hashAt reads the hash of an entry or a node from the bytes.
func hashAt(b []byte, at int) uint32 {
	if b[at] == api.TagEntry {
		return number(b, at+28)
	}
	return number(b, at+12)
}

// number reads a number of 4 bytes, its lowest byte first.
func number(b []byte, at int) uint32 {
	return uint32(b[at]) | uint32(b[at+1])<<8 | uint32(b[at+2])<<16 | uint32(b[at+3])<<24
}

// put lays a number of 4 bytes, its lowest byte first.
func put(b []byte, at int, v uint32) {
	for i := range 4 {
		b[at+i] = byte(v >> (8 * i))
	}
}

// cell answers the cell of a block.
func cell(m *memory.Memory, at int) probe.Cell {
	return probe.Cell{ID: uint32(at), Home: int(uint64(hashAt(m.Image(), at)) % uint64(m.Config().Slots))}
}

// cells answers the table that the bytes of the slots are, if what they hold are entries and nodes.
func cells(m *memory.Memory) []probe.Cell {
	c, b := m.Config(), m.Image()
	l := make([]probe.Cell, c.Slots)
	for i := range l {
		if id := number(b, slotsAt[c.Slabs]+4*i); id != 0 {
			l[i] = probe.Cell{ID: id, Home: int(uint64(hashAt(b, int(id))) % uint64(c.Slots))}
		}
	}
	return l
}

// lead writes a table into the slots.
func lead(m *memory.Memory, l []probe.Cell) {
	for i, c := range l {
		m.Store(slotsAt[m.Config().Slabs]+4*i, 4, api.RegSlot, uint64(c.ID))
	}
}

// same holds all that a memory tells of its index against a table, and its other bytes against those that it had before.
func same(t *testing.T, m *memory.Memory, want []probe.Cell, before []byte) {
	t.Helper()
	if l := cells(m); !slices.Equal(l, want) {
		t.Fatal("the slots are", l, "not", want)
	}
	b := slices.Clone(before)
	for i, c := range want {
		put(b, slotsAt[m.Config().Slabs]+4*i, c.ID)
	}
	if !bytes.Equal(m.Image(), b) {
		t.Fatal("other bytes")
	}
	s := index.Slots(m)
	if len(s) != len(want) {
		t.Fatal("slots", len(s))
	}
	for i, c := range want {
		if s[i] != c.ID {
			t.Fatal("slot", i, "is", s[i], "not", c.ID)
		}
	}
	if n := index.Longest(m); n != probe.Longest(want) {
		t.Fatal("the longest is", n, "not", probe.Longest(want))
	}
	if m.Faults() != 0 {
		t.Fatal("faults", m.Faults())
	}
}

// found holds that some blocks, and no other ones of some, are found at their places and by what they are found by.
func found(t *testing.T, m *memory.Memory, all []int) {
	t.Helper()
	l := cells(m)
	for _, at := range all {
		c := cell(m, at)
		want, ok := probe.Find(l, c.ID, c.Home)
		if slot, is := index.Place(m, at); slot != want || is != ok {
			t.Fatal("the place of", at, "is", slot, is, "not", want, ok)
		}
		got, is := look(m, at)
		if is != ok || ok && got != at || !ok && got != 0 {
			t.Fatal("found", got, is, "not", at, ok)
		}
	}
}

// look looks for a block by what it is found by.
func look(m *memory.Memory, at int) (int, bool) {
	b := m.Image()
	if b[at] == api.TagEntry {
		return index.Entry(m, number(b, at+4), uint16(number(b, at+24)), hashAt(b, at))
	}
	return index.Node(m, number(b, at+4), string(b[at+16:at+16+int(b[at+3])]), hashAt(b, at))
}

// noBlocks answers offsets of a memory with some blocks where there is neither an entry nor a node.
func noBlocks(t *testing.T, m *memory.Memory) []int {
	t.Helper()
	blank, _ := slab.Take(m, 2)
	strange := take(t, m, 2)
	m.Store(strange, 1, api.RegLive, 3)
	free := take(t, m, 2)
	lay(t, m, free, api.Block{Tag: api.TagEntry, Class: 2, Hash: 5})
	slab.Give(m, free)
	l := append(extremes(), -32, -16, -1, 0, 8, 16, 64, 128, 240, 1120, 8304, 8320, 1<<20)
	return append(l, blank, blank+16, blank+32, strange, free, free+16, 8304-16, 8304-32, 8304-1024)
}

// refused holds that there is neither an entry nor a node at an offset, beside a block that is one.
func refused(t *testing.T, m *memory.Memory, at int, other int) {
	t.Helper()
	if e := index.Insert(m, at); e != api.ErrKind {
		t.Error("inserted", at, e)
	}
	if e := index.Delete(m, at); e != api.ErrKind {
		t.Error("deleted", at, e)
	}
	if e := index.Move(m, at, other); e != api.ErrKind {
		t.Error("moved", at, other, e)
	}
	if e := index.Move(m, other, at); e != api.ErrKind {
		t.Error("moved", other, at, e)
	}
	if e := index.Move(m, at, at); e != api.ErrKind {
		t.Error("moved", at, at, e)
	}
	if slot, ok := index.Place(m, at); slot != 0 || ok {
		t.Error("the place of", at, slot, ok)
	}
}

// P20.1 (Begin): whatever the slots were, they are 0, and nothing else is changed.
func TestBegin(t *testing.T) {
	for _, c := range configs() {
		b := memory.New(c).Image()
		for i := 20; i < len(b); i++ {
			b[i] = byte(i*37 + i/251 + 1)
		}
		m, e := memory.From(c, b)
		if e != api.OK {
			t.Fatal("from", e)
		}
		if e := index.Begin(m); e != api.OK {
			t.Fatal("begin", e)
		}
		same(t, m, make([]probe.Cell, c.Slots), b)
	}
}

// P20.1 (Begin): what was inserted before is not found any more, and can be inserted again.
func TestBeginAgain(t *testing.T) {
	m, l := inserted(t, small, 3, 3, 4, 223)
	want, before := cells(m), m.Image()
	if e := index.Begin(m); e != api.OK {
		t.Fatal("begin", e)
	}
	same(t, m, make([]probe.Cell, 224), before)
	found(t, m, l)
	for _, at := range l {
		if e := index.Delete(m, at); e != api.ErrNone {
			t.Error("deleted", at, e)
		}
		insert(t, m, at)
	}
	same(t, m, want, before)
}

// P20.1 (index): before Begin a memory's slots are empty.
func TestNew(t *testing.T) {
	for _, c := range configs() {
		m := memory.New(c)
		same(t, m, make([]probe.Cell, c.Slots), m.Image())
	}
}

// P20.1 (index): the slots byte by byte: the home is the remainder of the hash, of an entry as of a node.
func TestBytes(t *testing.T) {
	for _, c := range configs() {
		n := uint64(c.Slots)
		for _, hash := range []uint32{0, 1, 7, 223, 224, 257, 258, 1 << 16, 1 << 31, 2166136261, math.MaxUint32 - 1, math.MaxUint32} {
			for i := range 3 {
				m := begin(t, c)
				at := block(t, m, i, hash)
				want := m.Image()
				put(want, slotsAt[c.Slabs]+4*int(uint64(hash)%n), uint32(at))
				insert(t, m, at)
				if !bytes.Equal(m.Image(), want) {
					t.Error("the bytes with", c, hash)
				}
			}
		}
	}
	m := begin(t, small)
	insert(t, m, block(t, m, 0, 1))
	if b := m.Image()[240:252]; !bytes.Equal(b, []byte{0, 0, 0, 0, 112, 4, 0, 0, 0, 0, 0, 0}) {
		t.Error("the slots", b)
	}
}

// P20.1 (Slots): what Slots answers belongs to the caller, and is what the slots hold, whatever that is.
func TestSlots(t *testing.T) {
	m, _ := inserted(t, small, 0, 0, 223)
	want, before := cells(m), m.Image()
	l, other := index.Slots(m), index.Slots(m)
	clear(l)
	l = append(l[:2], 1, 2, 3)
	if len(l) != 5 || other[0] == 0 || other[223] == 0 {
		t.Error("lists that share memory", other)
	}
	same(t, m, want, before)
	for i := range 224 {
		m.Store(240+4*i, 4, api.RegSlot, uint64(math.MaxUint32-i))
	}
	for i, v := range index.Slots(m) {
		if v != uint32(math.MaxUint32-i) {
			t.Error("slot", i, "is", v)
		}
	}
}

// P20.1 (Longest): the greatest distance, also round the end.
func TestLongest(t *testing.T) {
	for _, x := range []struct {
		hashes []uint32
		want   int
	}{
		{nil, 0},
		{[]uint32{0}, 0},
		{[]uint32{223}, 0},
		{[]uint32{5, 6, 7}, 0},
		{[]uint32{5, 5}, 1},
		{[]uint32{223, 223}, 1},
		{[]uint32{223, 223 + 224, 223 + 448, 0}, 2},
		{[]uint32{223, 223 + 224, 223 + 448, 223}, 3},
		{[]uint32{5, 5, 6, 6, 7, 9}, 2},
		{[]uint32{222, 223, 222, 223, 222, 222}, 4},
	} {
		m, l := inserted(t, small, x.hashes...)
		if n := index.Longest(m); n != x.want {
			t.Error("the longest of", x.hashes, "is", n, "not", x.want)
		}
		for _, at := range l {
			index.Delete(m, at)
		}
		if n := index.Longest(m); n != 0 {
			t.Error("the longest of none is", n)
		}
	}
}

// P20.1 (Longest): each block of a full table.
func TestLongestFull(t *testing.T) {
	m := begin(t, small)
	for i := range 224 {
		if n := index.Longest(m); n != max(i-1, 0) {
			t.Fatal("the longest of", i, "is", n)
		}
		insert(t, m, entry(t, m, uint32(i), 1, 100))
	}
	if n := index.Longest(m); n != 223 {
		t.Error("the longest is", n)
	}
}

// P20.2 (Insert): the chapter's examples.
func TestInsertExamples(t *testing.T) {
	for _, order := range [][]uint32{{222, 222, 222, 222, 223, 223}, {223, 223, 222, 222, 222, 222}, {222, 223, 222, 223, 222, 222}, {223, 222, 222, 222, 223, 222}} {
		m, l := inserted(t, small, order...)
		var want []uint32
		for _, hash := range []uint32{222, 223} {
			for i, at := range l {
				if order[i] == hash {
					want = append(want, uint32(at))
				}
			}
		}
		s := index.Slots(m)
		if got := slices.Concat(s[222:], s[:4]); !slices.Equal(got, want) {
			t.Error("the slots of", order, "are", got, "not", want)
		}
		if i := slices.IndexFunc(s[4:222], func(v uint32) bool { return v != 0 }); i >= 0 {
			t.Error("slot", 4+i, "is", s[4+i])
		}
	}
	m := begin(t, small)
	a, b := entry(t, m, 1, 1, 223), entry(t, m, 1, 2, 223)
	insert(t, m, a)
	insert(t, m, b)
	if s := index.Slots(m); s[223] != uint32(a) || s[0] != uint32(b) {
		t.Error("two entries", s)
	}
}

// P20.2 (Insert, Delete): all orders of inserting some blocks, and of deleting them, step by step as package probe has it.
func TestEveryOrder(t *testing.T) {
	for _, hashes := range [][]uint32{{7, 7, 8, 9}, {223, 223, 223, 0}, {222, 0, 223, 222}, {0, 1, 0, 1}, {223, 1, 223, 222}} {
		m := begin(t, small)
		l := blocks(t, m, hashes...)
		before := m.Image()
		permute(l, func(in []int) {
			in = slices.Clone(in)
			permute(slices.Clone(in), func(out []int) {
				want := make([]probe.Cell, 224)
				for _, at := range in {
					insert(t, m, at)
					want, _ = probe.Insert(want, cell(m, at).ID, cell(m, at).Home)
				}
				same(t, m, want, before)
				for _, at := range out {
					if e := index.Delete(m, at); e != api.OK {
						t.Fatal("deleted", at, e)
					}
					want, _ = probe.Delete(want, cell(m, at).ID, cell(m, at).Home)
				}
				same(t, m, want, before)
			})
		})
	}
}

// permute visits all orders of a list.
func permute(l []int, f func(l []int)) {
	var choose func(n int)
	choose = func(n int) {
		if n == len(l) {
			f(l)
			return
		}
		for i := n; i < len(l); i++ {
			l[n], l[i] = l[i], l[n]
			choose(n + 1)
			l[n], l[i] = l[i], l[n]
		}
	}
	choose(0)
}

// P20.2 (Insert): a block that a slot holds is not inserted again.
func TestInsertState(t *testing.T) {
	m, l := inserted(t, small, 5, 5, 6, 223, 223, 0)
	want, before := cells(m), m.Image()
	for _, at := range l {
		if e := index.Insert(m, at); e != api.ErrState {
			t.Error("inserted", at, e)
		}
	}
	same(t, m, want, before)
}

// P20.2 (Insert, Delete, Move): whatever its hash has become, and wherever its slot is, a slot holds it.
func TestHeldElsewhere(t *testing.T) {
	for _, hash := range []uint32{0, 4, 5, 6, 7, 100, 223} {
		m, l := inserted(t, small, 5, 5, 6, 223)
		for _, at := range l {
			to := copied(t, m, at)
			head.Store(m, at, api.FieldHash, uint64(hash))
			head.Store(m, to, api.FieldHash, uint64(hash))
			before := m.Image()
			slot := slices.Index(index.Slots(m), uint32(at))
			if e := index.Insert(m, at); e != api.ErrState || !bytes.Equal(m.Image(), before) {
				t.Error("inserted", at, hash, e)
			}
			if e := index.Move(m, at, to); e != api.OK || index.Slots(m)[slot] != uint32(to) {
				t.Error("moved", at, hash, e)
			}
			if e := index.Delete(m, to); e != api.OK || slices.Contains(index.Slots(m), uint32(to)) {
				t.Error("deleted", to, hash, e)
			}
		}
		if s := index.Slots(m); slices.ContainsFunc(s, func(v uint32) bool { return v != 0 }) || m.Faults() != 0 {
			t.Error("left", s, "faults", m.Faults())
		}
	}
}

// P20.2 (Insert): no slot is empty, whatever they hold. That a block is none, or that a slot holds it, is told ahead.
func TestInsertFull(t *testing.T) {
	for _, v := range []uint64{1, 8, 1136, 8304, math.MaxUint32} {
		m := begin(t, small)
		l := blocks(t, m, 7, 223, 0, 7)
		for i := range 224 {
			m.Store(240+4*i, 4, api.RegSlot, v)
		}
		m.Store(240+4*100, 4, api.RegSlot, uint64(l[3]))
		before := m.Image()
		for _, at := range l[1:3] {
			if e := index.Insert(m, at); e != api.ErrFull {
				t.Error("inserted", at, e)
			}
		}
		if e := index.Insert(m, l[3]); e != api.ErrState {
			t.Error("inserted again", e)
		}
		if e := index.Insert(m, 0); e != api.ErrKind {
			t.Error("inserted none", e)
		}
		if !bytes.Equal(m.Image(), before) || m.Faults() != 0 {
			t.Error("changed, or faults", m.Faults())
		}
		m.Store(240+4*5, 4, api.RegSlot, 0)
		if e := index.Insert(m, l[1]); e != api.OK || !slices.Contains(index.Slots(m), uint32(l[1])) {
			t.Error("inserted where one is empty", e)
		}
		if e := index.Insert(m, l[2]); e != api.ErrFull {
			t.Error("inserted", e)
		}
	}
}

// P20.2 (Insert, Delete), P20.3: as many blocks as there are slots, at one home and at many.
func TestFull(t *testing.T) {
	for _, step := range []uint32{0, 1, 3, 5, 112} {
		m := begin(t, small)
		want := make([]probe.Cell, 224)
		var l []int
		for i := range 224 {
			l = append(l, entry(t, m, uint32(i), 1, 200+step*uint32(i)))
		}
		before := m.Image()
		for _, at := range l {
			insert(t, m, at)
			want, _ = probe.Insert(want, cell(m, at).ID, cell(m, at).Home)
		}
		same(t, m, want, before)
		found(t, m, l)
		for hash := range uint32(224) {
			if at, ok := index.Entry(m, 224, 1, hash); at != 0 || ok {
				t.Fatal("found", at, ok)
			}
			if at, ok := index.Node(m, 0, "www", hash); at != 0 || ok {
				t.Fatal("found", at, ok)
			}
		}
		for _, i := range []int{223, 0, 100, 101, 7} {
			if e := index.Delete(m, l[i]); e != api.OK {
				t.Fatal("deleted", e)
			}
			want, _ = probe.Delete(want, cell(m, l[i]).ID, cell(m, l[i]).Home)
			same(t, m, want, before)
		}
		found(t, m, l)
	}
}

// P20.2 (Delete): a full table where no block is at home: each moves once at most.
func TestDeleteWithoutHome(t *testing.T) {
	for _, shift := range []int{1, 2, 223} {
		for _, i := range []int{0, 1, 100, 223} {
			m := begin(t, small)
			table := make([]probe.Cell, 224)
			for slot := range table {
				home := (slot + 224 - shift) % 224
				table[slot] = probe.Cell{ID: uint32(entry(t, m, uint32(slot), 1, uint32(home))), Home: home}
			}
			lead(m, table)
			x, _ := memory.From(small, m.Image())
			if !probe.Right(table) {
				t.Fatal("not right", shift)
			}
			want, e := probe.Delete(table, table[i].ID, table[i].Home)
			if e != api.OK {
				t.Fatal("deleted", e)
			}
			if e := index.Delete(m, int(table[i].ID)); e != api.OK {
				t.Fatal("deleted", e)
			}
			// What is left need not be a table, so package probe tells no more of it.
			lead(x, want)
			if !slices.Equal(cells(m), want) || !bytes.Equal(m.Image(), x.Image()) || m.Faults() != 0 {
				t.Fatal("the slots are", cells(m), "not", want)
			}
		}
	}
}

// P20.2 (Insert, Delete, Move, Place): where there is neither an entry nor a node.
func TestKind(t *testing.T) {
	m, l := inserted(t, small, 5, 5, 6, 0, 223)
	none := noBlocks(t, m)
	want, before := cells(m), m.Image()
	for _, at := range none {
		refused(t, m, at, l[0])
		// What is no block has no hash, and one of a block may be 0.
		refused(t, m, at, l[3])
	}
	same(t, m, want, before)
}

// P20.2, R1: where the reserved word lies there is no block, though its bytes were marked as live, for in a slot 0 is none.
func TestWord(t *testing.T) {
	m, l := inserted(t, small, 5, 0)
	m.Mark(0, 32, api.RegLive)
	lay(t, m, 0, api.Block{Tag: api.TagEntry, Class: 1})
	want, before := cells(m), m.Image()
	refused(t, m, 0, l[1])
	if at, ok := index.Entry(m, 0, 0, 0); at != 0 || ok {
		t.Error("found", at, ok)
	}
	same(t, m, want, before)
}

// P20.2 (Insert, Delete, Move): inside of a block there is none, though its bytes may be 1 or 2 everywhere.
func TestInside(t *testing.T) {
	m, l := inserted(t, small, 5, 5, 6)
	for i, v := range []byte{1, 2, 1} {
		at := entry(t, m, 1, 1, 1)
		m.Write(at+i%2, bytes.Repeat([]byte{v}, 32-i%2), api.RegLive)
	}
	want, before := cells(m), m.Image()
	for at := range len(before) {
		if at%16 != 0 {
			refused(t, m, at, l[0])
		}
	}
	same(t, m, want, before)
}

// P20.2, R1: a header that is not live as a whole is no block's. That of a node is shorter.
func TestPartly(t *testing.T) {
	for i := 0; i < 32; i += 4 {
		m, l := inserted(t, small, 5, 5)
		at := entry(t, m, 1, 1, 5)
		other := node(t, m, 1, "www", 5)
		m.Mark(at+i, 4, api.RegFree)
		m.Mark(other+i, 4, api.RegFree)
		want, before := cells(m), m.Image()
		refused(t, m, at, l[0])
		if i < 16 {
			refused(t, m, other, l[0])
		} else {
			insert(t, m, other)
			want, _ = probe.Insert(want, uint32(other), 5)
		}
		same(t, m, want, before)
	}
}

// P20.2 (Delete): blocks that no slot holds; one that was deleted can be inserted again.
func TestDeleteNone(t *testing.T) {
	m, l := inserted(t, small, 5, 5, 6, 223, 223)
	var out []int
	for i, hash := range []uint32{5, 6, 222, 0} {
		out = append(out, block(t, m, 10+i, hash))
	}
	want, before := cells(m), m.Image()
	for _, at := range out {
		if e := index.Delete(m, at); e != api.ErrNone {
			t.Error("deleted what was never inserted", e)
		}
	}
	same(t, m, want, before)
	for _, at := range l {
		for range 3 {
			c := cell(m, at)
			if e := index.Delete(m, at); e != api.OK {
				t.Error("deleted", e)
			}
			want, _ = probe.Delete(want, c.ID, c.Home)
			if e := index.Delete(m, at); e != api.ErrNone {
				t.Error("deleted again", e)
			}
			same(t, m, want, before)
			found(t, m, append(l, out...))
			insert(t, m, at)
			want, _ = probe.Insert(want, c.ID, c.Home)
			same(t, m, want, before)
		}
	}
}

// copied copies a block's bytes to a new block of its class.
func copied(t *testing.T, m *memory.Memory, from int) int {
	t.Helper()
	class := int(head.Load(m, from, api.FieldClass))
	to := take(t, m, class)
	if !m.Write(to, m.Read(from, sizes[class], api.RegLive), api.RegLive) {
		t.Fatal("copied", from, to)
	}
	return to
}

// P20.2 (Move): each block: its slot holds the other one, and nothing else is changed; the next one answers ErrNone.
func TestMove(t *testing.T) {
	m, l := inserted(t, small, 5, 5, 6, 223, 223, 0, 100)
	want := cells(m)
	for i, from := range l {
		to := copied(t, m, from)
		before := m.Image()
		if e := index.Move(m, from, to); e != api.OK {
			t.Fatal("moved", from, to, e)
		}
		slot := slices.Index(want, cell(m, from))
		want[slot].ID = uint32(to)
		same(t, m, want, before)
		if e := index.Move(m, from, to); e != api.ErrNone {
			t.Error("moved again", e)
		}
		same(t, m, want, before)
		if place, ok := index.Place(m, to); place != slot || !ok {
			t.Error("the place of", to, "is", place, ok)
		}
		if place, ok := index.Place(m, from); place != 0 || ok {
			t.Error("the place of", from, "is", place, ok)
		}
		if at, ok := look(m, from); at != to || !ok {
			t.Error("found", at, ok, "not", to)
		}
		l[i] = to
	}
	found(t, m, l)
}

// P20.2 (Move): what was at from can be given back, and what is at to is moved on.
func TestMoveOn(t *testing.T) {
	m, l := inserted(t, small, 222, 223, 222, 223)
	for range 50 {
		for i, from := range l {
			to := copied(t, m, from)
			if e := index.Move(m, from, to); e != api.OK {
				t.Fatal("moved", e)
			}
			slab.Give(m, from)
			l[i] = to
		}
		found(t, m, l)
	}
	if s := index.Slots(m); s[222] != uint32(l[0]) || s[223] != uint32(l[2]) || s[0] != uint32(l[1]) || s[1] != uint32(l[3]) {
		t.Error("the slots", s)
	}
}

// P20.2 (Move): the hashes alone must be the same, and a block may be moved to where it is.
func TestMoveHash(t *testing.T) {
	m := begin(t, small)
	from, same, other := entry(t, m, 1, 1, 7), entry(t, m, 2, 2, 7), node(t, m, 3, "www", 7)
	insert(t, m, from)
	for _, hash := range []uint32{6, 8, 7 + 224, 7 + 1<<8, 7 + 1<<16, 7 + 1<<31, 0} {
		e, n := entry(t, m, 1, 1, hash), node(t, m, 1, "www", hash)
		before := m.Image()
		for _, to := range []int{e, n} {
			if e := index.Move(m, from, to); e != api.ErrKind {
				t.Error("moved to another hash", hash, e)
			}
			// That the hashes differ is told ahead of that no slot holds it.
			if e := index.Move(m, to, from); e != api.ErrKind {
				t.Error("moved from another hash", hash, e)
			}
		}
		if !bytes.Equal(m.Image(), before) {
			t.Error("changed")
		}
		slab.Give(m, e)
		slab.Give(m, n)
	}
	for _, at := range []int{from, same, other, from} {
		before := index.Slots(m)[7]
		if e := index.Move(m, int(before), at); e != api.OK || index.Slots(m)[7] != uint32(at) {
			t.Error("moved", before, at, e)
		}
	}
	if m.Faults() != 0 {
		t.Error("faults", m.Faults())
	}
}

// P20.2 (Place): the slot from home on, and nothing in a slot where probe.Find does not look.
func TestPlace(t *testing.T) {
	m, l := inserted(t, small, 5, 5, 6, 223, 223, 0, 100)
	for i, want := range []int{5, 6, 7, 223, 0, 1, 100} {
		if slot, ok := index.Place(m, l[i]); slot != want || !ok {
			t.Error("the place of", i, "is", slot, ok, "not", want)
		}
	}
	for slot := range 224 {
		m := begin(t, small)
		at := entry(t, m, 1, 1, 222)
		m.Store(240+4*slot, 4, api.RegSlot, uint64(at))
		want, ok := probe.Find(cells(m), uint32(at), 222)
		if place, is := index.Place(m, at); place != want || is != ok || is != (slot == 222) {
			t.Error("the place in", slot, "is", place, is)
		}
		if got, is := index.Entry(m, 1, 1, 222); is != ok || is && got != at || !is && got != 0 {
			t.Error("the entry in", slot, "is", got, is)
		}
	}
	for _, at := range append(extremes(), -1, 0, 8, 240, 1<<32+l[0], 1<<32+l[5], -1<<32+l[5], -l[5], l[5]+1, l[5]+16) {
		if slot, ok := index.Place(m, at); slot != 0 || ok {
			t.Error("the place of", at, "is", slot, ok)
		}
	}
}

// P20.3 (Entry): each of its fields must have the value, in all its bits.
func TestEntry(t *testing.T) {
	const name, typ, hash = 0x81020304, 0x8506, 0x8708090a
	m := begin(t, small)
	want := entry(t, m, name, typ, hash)
	insert(t, m, want)
	for bit := range 32 {
		insert(t, m, entry(t, m, name^1<<bit, typ, hash))
	}
	for bit := range 16 {
		insert(t, m, entry(t, m, name, typ^1<<bit, hash))
	}
	for _, multiple := range []uint32{1, 2, 256, 1 << 20} {
		insert(t, m, entry(t, m, name, typ, hash+224*multiple))
	}
	insert(t, m, node(t, m, name, "www", hash))
	if at, ok := index.Entry(m, name, typ, hash); at != want || !ok {
		t.Error("found", at, ok, "not", want)
	}
	if e := index.Delete(m, want); e != api.OK {
		t.Fatal("deleted", e)
	}
	if at, ok := index.Entry(m, name, typ, hash); at != 0 || ok {
		t.Error("found", at, ok)
	}
	if m.Faults() != 0 {
		t.Error("faults", m.Faults())
	}
}

// P20.3 (Entry): what else it has does not matter.
func TestEntryElse(t *testing.T) {
	for i := range 32 {
		if i < 4 && i != 2 || i >= 4 && i < 8 || i >= 24 && i < 26 || i >= 28 {
			continue
		}
		m := begin(t, small)
		want := entry(t, m, 5, 6, 7)
		insert(t, m, want)
		m.Store(want+i, 1, api.RegLive, 255)
		if at, ok := index.Entry(m, 5, 6, 7); at != want || !ok {
			t.Error("byte", i, "found", at, ok)
		}
	}
}

// P20.3 (Entry): of several the first one from its home on, which need not be in the first slot.
func TestEntryFirst(t *testing.T) {
	m := begin(t, small)
	var l []int
	for range 4 {
		insert(t, m, entry(t, m, 1, 1, 223))
		at := entry(t, m, 1, 2, 223)
		insert(t, m, at)
		l = append(l, at)
	}
	for _, want := range l {
		if at, ok := index.Entry(m, 1, 2, 223); at != want || !ok {
			t.Error("found", at, ok, "not", want)
		}
		index.Delete(m, want)
	}
	if at, ok := index.Entry(m, 1, 2, 223); at != 0 || ok {
		t.Error("found", at, ok)
	}
}

// labels are labels that differ by little from www, in bytes, in case and in length.
func labels() []string {
	l := []string{"WWW", "Www", "wwx", "vww", "w", "ww", "wwww", "www.", "ww\x00", "\x00ww", "ww\xff", strings.Repeat("w", 62), strings.Repeat("w", 63)}
	for b := range 256 {
		l = append(l, "w"+string([]byte{byte(b)})+"z")
	}
	return l
}

// P20.3 (Node): the label must be equal, byte by byte, and the parent and the hash must have the value.
func TestNode(t *testing.T) {
	m := begin(t, small)
	want := node(t, m, 5, "www", 223)
	insert(t, m, want)
	for _, label := range append(labels(), "", strings.Repeat("w", 64), strings.Repeat("w", 300), "www\x00") {
		if at, ok := index.Node(m, 5, label, 223); at != 0 || ok {
			t.Errorf("found %d %v by %q", at, ok, label)
		}
	}
	for bit := range 32 {
		if at, ok := index.Node(m, 5^1<<bit, "www", 223); at != 0 || ok {
			t.Error("found with another parent", at, ok)
		}
		if at, ok := index.Node(m, 5, "www", 223^1<<bit); at != 0 || ok {
			t.Error("found with another hash", at, ok)
		}
	}
	if at, ok := index.Node(m, 5, "www", 223+224); at != 0 || ok {
		t.Error("found with another hash", at, ok)
	}
	if at, ok := index.Node(m, 5, "www", 223); at != want || !ok || m.Faults() != 0 {
		t.Error("found", at, ok, "faults", m.Faults())
	}
}

// P20.3 (Node): among others with the same hash each is found by its own label.
func TestNodes(t *testing.T) {
	c := api.Config{Slabs: 64, Slots: 2048}
	m := begin(t, c)
	all := append(labels(), "www", "")
	places := map[string]int{}
	for _, label := range all {
		if _, ok := places[label]; ok {
			continue
		}
		at := node(t, m, 5, label+strings.Repeat("x", max(0, 1-len(label))), 2047)
		// No header of a node has no label, but somebody may have written one.
		head.Store(m, at, api.FieldLabel, uint64(len(label)))
		insert(t, m, at)
		places[label] = at
	}
	insert(t, m, entry(t, m, 5, 0, 2047))
	for label, want := range places {
		if at, ok := index.Node(m, 5, label, 2047); at != want || !ok {
			t.Errorf("found %d %v not %d by %q", at, ok, want, label)
		}
	}
	if at, ok := index.Node(m, 5, "nobody", 2047); at != 0 || ok || m.Faults() != 0 {
		t.Error("found", at, ok, "faults", m.Faults())
	}
}

// P20.3 (Node): of several the first one from its home on; an entry with the same fields is none.
func TestNodeFirst(t *testing.T) {
	m := begin(t, small)
	insert(t, m, entry(t, m, 5, 0, 223))
	var l []int
	for range 4 {
		insert(t, m, node(t, m, 5, "www", 223))
		at := node(t, m, 5, "mail", 223)
		insert(t, m, at)
		l = append(l, at)
	}
	for _, want := range l {
		if at, ok := index.Node(m, 5, "mail", 223); at != want || !ok {
			t.Error("found", at, ok, "not", want)
		}
		index.Delete(m, want)
	}
	if at, ok := index.Node(m, 5, "mail", 223); at != 0 || ok {
		t.Error("found", at, ok)
	}
	if at, ok := index.Entry(m, 5, 0, 223); at == 0 || !ok {
		t.Error("no entry", at, ok)
	}
}

// P20.3 (Node), R1: a length of a label that leads behind the live bytes: it is no label, and to look for it is no fault.
func TestNodeBeyond(t *testing.T) {
	m := begin(t, small)
	at := node(t, m, 5, "www", 7)
	insert(t, m, at)
	for n := range 256 {
		head.Store(m, at, api.FieldLabel, uint64(n))
		label := string(m.Image()[at+16 : at+16+n])
		got, ok := index.Node(m, 5, label, 7)
		if ok != (n <= 16) || ok && got != at || m.Faults() != 0 {
			t.Fatal("found by", n, got, ok, "faults", m.Faults())
		}
	}
}

// P20.3: entries and nodes are found by what they have by now.
func TestChanged(t *testing.T) {
	m := begin(t, small)
	e, n := entry(t, m, 5, 6, 7), node(t, m, 5, "www", 7)
	insert(t, m, e)
	insert(t, m, n)
	head.Store(m, e, api.FieldName, 50)
	head.Store(m, e, api.FieldType, 60)
	head.Store(m, n, api.FieldName, 51)
	m.Write(n+16, []byte("abc"), api.RegLive)
	if at, ok := index.Entry(m, 50, 60, 7); at != e || !ok {
		t.Error("found", at, ok)
	}
	if at, ok := index.Node(m, 51, "abc", 7); at != n || !ok {
		t.Error("found", at, ok)
	}
	if _, ok := index.Entry(m, 5, 6, 7); ok {
		t.Error("found by what it was")
	}
	if _, ok := index.Node(m, 5, "www", 7); ok {
		t.Error("found by what it was")
	}
}

// P20.4: blocks that have been inserted and not deleted are found, and no others, whatever is done; all is as package probe has it, and nothing is a fault.
func TestRandom(t *testing.T) {
	for seed := range uint64(12) {
		c := configs()[seed%3]
		next := numbers(seed)
		m := begin(t, c)
		l := make([]int, 40)
		for i := range l {
			// Few homes, round the end, so that there is much to move.
			hash := uint32(c.Slots - 6 + next(12))
			l[i] = block(t, m, i, hash+uint32(c.Slots*next(3)))
		}
		table := make([]probe.Cell, c.Slots)
		for range 400 {
			at, before := &l[next(len(l))], m.Image()
			switch next(5) {
			case 0, 1:
				table = doInsert(t, m, table, *at)
			case 2, 3:
				table = doDelete(t, m, table, *at)
			default:
				to := copied(t, m, *at)
				before = m.Image()
				table = doMove(t, m, table, *at, to)
				if next(2) == 0 {
					slab.Give(m, *at)
					before = m.Image()
				}
				*at = to
			}
			same(t, m, table, before)
		}
		found(t, m, l)
		if m.Faults() != 0 {
			t.Fatal("faults", m.Faults())
		}
	}
}

// doInsert inserts a block, and answers what becomes of a table.
func doInsert(t *testing.T, m *memory.Memory, table []probe.Cell, at int) []probe.Cell {
	t.Helper()
	after, want := probe.Insert(table, cell(m, at).ID, cell(m, at).Home)
	if e := index.Insert(m, at); e != want {
		t.Fatal("inserted", at, e, "not", want)
	}
	if want != api.OK {
		return table
	}
	return after
}

// doDelete deletes one.
func doDelete(t *testing.T, m *memory.Memory, table []probe.Cell, at int) []probe.Cell {
	t.Helper()
	after, want := probe.Delete(table, cell(m, at).ID, cell(m, at).Home)
	if e := index.Delete(m, at); e != want {
		t.Fatal("deleted", at, e, "not", want)
	}
	if want != api.OK {
		return table
	}
	return after
}

// doMove moves one.
func doMove(t *testing.T, m *memory.Memory, table []probe.Cell, from int, to int) []probe.Cell {
	t.Helper()
	after, want := slices.Clone(table), api.ErrNone
	if slot, ok := probe.Find(table, cell(m, from).ID, cell(m, from).Home); ok {
		after[slot].ID, want = uint32(to), api.OK
	}
	if e := index.Move(m, from, to); e != want {
		t.Fatal("moved", from, to, e, "not", want)
	}
	return after
}

// P20.4: inserting and deleting a block leaves the index as it was, whatever its hash.
func TestInsertDelete(t *testing.T) {
	m, l := inserted(t, small, 222, 223, 222, 223, 0, 1, 1, 5, 5, 6, 100, 221)
	at := entry(t, m, 1000, 1, 0)
	for hash := range uint32(224) {
		head.Store(m, at, api.FieldHash, uint64(hash))
		before := m.Image()
		insert(t, m, at)
		found(t, m, append(l, at))
		if e := index.Delete(m, at); e != api.OK || !bytes.Equal(m.Image(), before) {
			t.Fatal("deleted", hash, e)
		}
	}
	found(t, m, l)
	if m.Faults() != 0 {
		t.Error("faults", m.Faults())
	}
}

// P20.4: a search ends where its block can't lie further on: it looks at few slots of many.
func TestFewLooks(t *testing.T) {
	m := begin(t, api.Config{Slabs: 64, Slots: 8192})
	for i := range 1000 {
		insert(t, m, entry(t, m, uint32(i), 1, uint32(i)*8))
	}
	looks := m.Looks()
	for i := range uint32(1000) {
		if _, ok := index.Entry(m, i, 1, i*8); !ok {
			t.Fatal("not found", i)
		}
		if _, ok := index.Entry(m, i, 2, i*8); ok {
			t.Fatal("found", i)
		}
	}
	if n := m.Looks() - looks; n > 2000*50 {
		t.Error("looks", n)
	}
}

// R1: a nil memory, and one that package memory has not made, have no index. That is told ahead of all else.
func TestNil(t *testing.T) {
	for _, m := range []*memory.Memory{nil, {}} {
		if e := index.Begin(m); e != api.ErrNil {
			t.Error("begin", e)
		}
		for _, at := range append(extremes(), -1, 0, 8, 240, 1136) {
			if e := index.Insert(m, at); e != api.ErrNil {
				t.Error("inserted", at, e)
			}
			if e := index.Delete(m, at); e != api.ErrNil {
				t.Error("deleted", at, e)
			}
			if e := index.Move(m, at, at); e != api.ErrNil {
				t.Error("moved", at, e)
			}
			if slot, ok := index.Place(m, at); slot != 0 || ok {
				t.Error("the place of", at, slot, ok)
			}
		}
		if at, ok := index.Entry(m, 0, 0, 0); at != 0 || ok {
			t.Error("an entry", at, ok)
		}
		if at, ok := index.Node(m, 0, "", 0); at != 0 || ok {
			t.Error("a node", at, ok)
		}
		if len(index.Slots(m)) != 0 || index.Longest(m) != 0 {
			t.Error("slots of no memory")
		}
	}
}

// R4: the indexes of two memories are independent of each other.
func TestIndependent(t *testing.T) {
	m, l := inserted(t, small, 5, 5, 6)
	x, k := inserted(t, small, 5, 6, 7)
	want, before := cells(x), x.Image()
	index.Delete(m, l[0])
	insert(t, m, entry(t, m, 9, 9, 5))
	index.Begin(m)
	same(t, x, want, before)
	found(t, x, k)
}

// R1: slots that hold no blocks, as others may have written them: their home is 0, nothing is a fault, and nothing of them is found.
func TestStrangeSlots(t *testing.T) {
	x := begin(t, small)
	for _, v := range append(noBlocks(t, x), math.MaxUint32, 1, 2, 4, 1140, 1144) {
		if v <= 0 || v > math.MaxUint32 {
			continue
		}
		m := begin(t, small)
		noBlocks(t, m)
		m.Store(240+4*100, 4, api.RegSlot, uint64(v))
		if n := index.Longest(m); n != 100 {
			t.Error("the longest with", v, "is", n)
		}
		l := blocks(t, m, 99, 99, 99, 100, 101, 0)
		for _, at := range l {
			insert(t, m, at)
		}
		for _, at := range l {
			if got, ok := look(m, at); got != at || !ok {
				t.Error("found", got, ok, "not", at, "with", v)
			}
			if e := index.Delete(m, at); e != api.OK {
				t.Error("deleted", at, e)
			}
		}
		if s := index.Slots(m); !slices.Contains(s, uint32(v)) || m.Faults() != 0 {
			t.Error("with", v, "faults", m.Faults())
		}
	}
}

// R1, P20.4: a block that was given back and is in a slot still is not found, and taken anew it is held.
func TestGiven(t *testing.T) {
	m, l := inserted(t, small, 7, 7, 7)
	slab.Give(m, l[0])
	if at, ok := index.Entry(m, 0, 0, 7); at != 0 || ok {
		t.Error("found", at, ok)
	}
	if at, ok := index.Entry(m, 0, 0, 0); at != 0 || ok {
		t.Error("found", at, ok)
	}
	if e := index.Delete(m, l[0]); e != api.ErrKind {
		t.Error("deleted", e)
	}
	if at := entry(t, m, 0, 0, 100); at != l[0] || index.Insert(m, at) != api.ErrState || index.Delete(m, at) != api.OK {
		t.Error("taken anew", at)
	}
	found(t, m, l)
	if m.Faults() != 0 {
		t.Error("faults", m.Faults())
	}
}

// wild writes something into a memory that may break its index.
func wild(m *memory.Memory, l []int, next func(n int) int) {
	at, v := l[next(len(l))], l[next(len(l))]
	if next(8) == 0 {
		v = next(8400)
	}
	switch next(8) {
	case 0, 1:
		m.Store(240+4*next(224), 4, api.RegSlot, uint64(v))
	case 2:
		m.Store(at, 1, api.RegLive, uint64(next(4)))
	case 3:
		m.Mark(at+4*next(8), 4*next(3), api.RegFree)
	case 4:
		m.Mark(at, 32, api.RegLive)
	case 5:
		head.Store(m, at, api.FieldLabel, uint64(next(256)))
	default:
		head.Store(m, at, api.FieldHash, uint64(next(448)))
	}
}

// R1, P20.4: whatever others have written, each call ends, none panics, and none is a fault.
func TestAnyBytes(t *testing.T) {
	for seed := range uint64(40) {
		next := numbers(seed)
		m, l := inserted(t, small, 0, 0, 1, 5, 222, 222, 223, 223, 0, 7, 7, 7)
		if seed%4 == 0 {
			for i := range 224 {
				m.Store(240+4*i, 4, api.RegSlot, uint64(l[next(len(l))]+32*next(2)))
			}
		}
		for range 300 {
			wild(m, l, next)
			faults := m.Faults()
			from, to := l[next(12)], l[next(12)]
			switch next(4) {
			case 0:
				index.Insert(m, to)
			case 1:
				index.Delete(m, to)
			case 2:
				index.Move(m, from, to)
			default:
				index.Place(m, from)
				index.Entry(m, uint32(next(12)), uint16(next(12)), uint32(next(224)))
				index.Node(m, uint32(next(12)), "label"[:next(6)], uint32(next(224)))
				index.Slots(m)
			}
			if n := index.Longest(m); n < 0 || n > 223 || m.Faults() != faults {
				t.Fatal("the longest", n, "faults", m.Faults()-faults)
			}
		}
	}
}

// P20.1, R1: where the slots were marked as another kind, nothing is stored there, and all calls end.
func TestOtherKinds(t *testing.T) {
	m, l := inserted(t, small, 5, 5, 6)
	out := entry(t, m, 9, 9, 5)
	m.Mark(240, 4*224, api.RegPad)
	before := m.Image()
	index.Begin(m)
	index.Insert(m, out)
	index.Delete(m, l[0])
	index.Move(m, l[1], l[0])
	if at, ok := index.Place(m, l[1]); at != 0 || ok {
		t.Error("placed", at, ok)
	}
	if at, ok := look(m, l[1]); at != 0 || ok || index.Longest(m) != 0 {
		t.Error("found", at, ok)
	}
	if !bytes.Equal(m.Image(), before) {
		t.Error("changed")
	}
}
