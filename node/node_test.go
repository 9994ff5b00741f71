package node_test

import (
	"bytes"
	"hash/fnv"
	"maps"
	"math"
	"slices"
	"strings"
	"testing"

	"columbarium/api"
	"columbarium/head"
	"columbarium/index"
	"columbarium/memory"
	"columbarium/node"
	"columbarium/region"
	"columbarium/slab"
)

// small is the smallest configuration: its slots begin at 240, its slabs at 1136, and these end at 8304.
var small = api.Config{Slabs: 7, Slots: 224}

// nodesAt is where the root counts the nodes, as chapter 12 has it.
const nodesAt = 80

// rootHash is the hash of no labels, as chapter 3 has it.
const rootHash = 2166136261

// configs are the smallest configuration, one with padding ahead of its slabs, and the greatest one.
func configs() []api.Config {
	return []api.Config{small, {Slabs: 8, Slots: 258}, {Slabs: 64, Slots: 8192}}
}

// sizes are the sizes of blocks, by their class.
var sizes = [...]int{0, 32, 48, 64, 96, 128, 192, 256, 384, 512}

// extremes are ints far beyond a memory's bytes; some are 0 or the offset of a block once their high bits are lost.
func extremes() []int {
	l := []int{math.MinInt, math.MinInt + 1136, math.MaxInt, math.MaxInt - 15}
	for bit := 14; bit < 63; bit++ {
		l = append(l, 1<<bit, 1<<bit+1, 1<<bit+1136, -1<<bit, -1<<bit+1, -1<<bit+1136)
	}
	return l
}

// numbers answers a function that answers numbers below n, the same ones at each start.
func numbers(seed uint64) func(n int) int {
	return func(n int) int {
		seed = seed*6364136223846793005 + 1442695040888963407
		return int(seed>>33) % n
	}
}

// classOf answers the class of a label's node: the first one with room for 16 bytes more.
func classOf(label string) int {
	return slices.IndexFunc(sizes[:], func(size int) bool { return size >= 16+len(label) })
}

// put lays a number of 4 bytes, its lowest byte first.
func put(b []byte, at int, v uint32) {
	for i := range 4 {
		b[at+i] = byte(v >> (8 * i))
	}
}

// below answers the hash of a label below what has a hash.
func below(hash uint32, label string) uint32 {
	for _, c := range []byte(strings.ToLower(label) + ".") {
		hash = (hash ^ uint32(c)) * 16777619
	}
	return hash
}

// header answers the bytes of a node's header.
func header(class int, n int, parent int, refs int, hash uint32) []byte {
	b := make([]byte, 16)
	b[0], b[1], b[3] = 2, byte(class), byte(n)
	put(b, 4, uint32(parent))
	put(b, 8, uint32(refs))
	put(b, 12, hash)
	return b
}

// begin answers a memory with free slabs, an empty index and no nodes.
func begin(t *testing.T, c api.Config) *memory.Memory {
	t.Helper()
	m := memory.New(c)
	for _, e := range []api.Errno{slab.Begin(m), index.Begin(m), node.Begin(m)} {
		if e != api.OK {
			t.Fatal("begin", e)
		}
	}
	return m
}

// twin answers another memory with the same bytes and kinds.
func twin(t *testing.T, m *memory.Memory) *memory.Memory {
	t.Helper()
	x, e := region.Restore(m.Config(), m.Image())
	if e != api.OK {
		t.Fatal("restored", e)
	}
	return x
}

// take takes a block.
func take(t *testing.T, m *memory.Memory, class int) int {
	t.Helper()
	at, e := slab.Take(m, class)
	if e != api.OK {
		t.Fatal("taken", class, e)
	}
	return at
}

// add makes a new node.
func add(t *testing.T, m *memory.Memory, parent int, label string) int {
	t.Helper()
	at := take(t, m, classOf(label))
	if e := node.Make(m, at, parent, label); e != api.OK {
		t.Fatal("made", at, parent, label, e)
	}
	return at
}

// grow makes new nodes, each one below the one before it, the first one below the root.
func grow(t *testing.T, m *memory.Memory, labels ...string) []int {
	t.Helper()
	var l []int
	parent := 0
	for _, label := range labels {
		parent = add(t, m, parent, label)
		l = append(l, parent)
	}
	return l
}

// entry lays a new entry.
func entry(t *testing.T, m *memory.Memory, name int, hash uint32) int {
	t.Helper()
	at := take(t, m, 1)
	if e := head.Put(m, at, api.Block{Tag: api.TagEntry, Class: 1, Name: uint32(name), Hash: hash}); e != api.OK {
		t.Fatal("laid", e)
	}
	return at
}

// hold holds a node some times.
func hold(t *testing.T, m *memory.Memory, at int, times int) {
	t.Helper()
	for range times {
		if e := node.Hold(m, at); e != api.OK {
			t.Fatal("held", at, e)
		}
	}
}

// let lets a node, and holds how many go.
func let(t *testing.T, m *memory.Memory, at int, want int) {
	t.Helper()
	if n, e := node.Let(m, at); n != want || e != api.OK {
		t.Fatal("let", at, n, e, "not", want)
	}
}

// same holds a memory's bytes against others, and its kinds against what the bytes tell; and nothing is a fault.
func same(t *testing.T, m *memory.Memory, want []byte) {
	t.Helper()
	for i, v := range m.Image() {
		if v != want[i] {
			t.Fatal("byte", i, "is", v, "not", want[i])
		}
	}
	if m.Faults() != 0 || !region.Agree(m) {
		t.Fatal("faults", m.Faults(), "kinds", m.Runs())
	}
}

// unchanged holds that a memory has the bytes that it had before, and that nothing is a fault.
func unchanged(t *testing.T, m *memory.Memory, before []byte) {
	t.Helper()
	if !bytes.Equal(m.Image(), before) || m.Faults() != 0 {
		t.Fatal("changed, or faults", m.Faults())
	}
}

// missing holds that a parent has no node of a label.
func missing(t *testing.T, m *memory.Memory, parent int, label string) {
	t.Helper()
	if at, ok := node.Find(m, parent, label); at != 0 || ok {
		t.Errorf("found %d %v, below %d by %q", at, ok, parent, label)
	}
}

// part is a node as it must be.
type part struct {
	parent int
	label  string // in small letters
	hash   uint32
	held   int // by Hold
}

// tree is the nodes that a memory must have, by their offsets.
type tree map[int]part

// refs answers how many references a node must have: those that were added by Hold, and the nodes directly below it.
func (w tree) refs(at int) int {
	n := w[at].held
	for _, p := range w {
		if p.parent == at {
			n++
		}
	}
	return n
}

// add adds a node.
func (w tree) add(at int, parent int, label string) {
	hash := uint32(rootHash)
	if parent != 0 {
		hash = w[parent].hash
	}
	w[at] = part{parent: parent, label: strings.ToLower(label), hash: below(hash, label)}
}

// hold adds a reference to a node, or takes one away.
func (w tree) hold(at int, more int) {
	p := w[at]
	p.held += more
	w[at] = p
}

// let takes a reference that Hold has added away, and answers how many nodes go.
func (w tree) let(at int) int {
	w.hold(at, -1)
	n := 0
	for at != 0 && w.refs(at) == 0 {
		parent := w[at].parent
		delete(w, at)
		n++
		at = parent
	}
	return n
}

// has tells whether there is a node of a label below another one, or below the root.
func (w tree) has(parent int, label string) bool {
	for _, p := range w {
		if p.parent == parent && p.label == strings.ToLower(label) {
			return true
		}
	}
	return false
}

// all answers the offsets of the nodes, in increasing order.
func (w tree) all() []int { return slices.Sorted(maps.Keys(w)) }

// block answers the bytes of a node's block.
func (w tree) block(at int) []byte {
	p := w[at]
	class := classOf(p.label)
	b := slices.Concat(header(class, len(p.label), p.parent, w.refs(at), p.hash), []byte(p.label))
	return append(b, make([]byte, sizes[class]-len(b))...)
}

// same holds all that a memory tells of its nodes against a tree: its bytes, its index, its live blocks, and what the functions answer.
func (w tree) same(t *testing.T, m *memory.Memory) {
	t.Helper()
	var live, held []int
	for i := range m.Config().Slabs {
		live = append(live, slab.Live(m, i)...)
	}
	for _, v := range index.Slots(m) {
		if v != 0 {
			held = append(held, int(v))
		}
	}
	slices.Sort(held)
	if want := w.all(); !slices.Equal(live, want) || !slices.Equal(held, want) {
		t.Fatal("the nodes are", want, "live blocks", live, "in the index", held)
	}
	b := m.Image()
	count := make([]byte, 4)
	put(count, 0, uint32(len(w)))
	if !bytes.Equal(b[nodesAt:nodesAt+4], count) || node.Count(m) != len(w) {
		t.Fatal("the count is", node.Count(m), "not", len(w))
	}
	for at := range w {
		if want := w.block(at); !bytes.Equal(b[at:at+len(want)], want) {
			t.Fatal("the bytes at", at, "are", b[at:at+len(want)], "not", want)
		}
		w.told(t, m, at)
	}
	if m.Faults() != 0 || !region.Agree(m) {
		t.Fatal("faults", m.Faults(), "kinds", m.Runs())
	}
}

// told holds what the functions tell of a node against a tree.
func (w tree) told(t *testing.T, m *memory.Memory, at int) {
	t.Helper()
	p := w[at]
	if label, e := node.Label(m, at); label != p.label || e != api.OK {
		t.Fatal("the label of", at, "is", label, e, "not", p.label)
	}
	if hash := node.Hash(m, at); hash != p.hash {
		t.Fatal("the hash of", at, "is", hash, "not", p.hash)
	}
	if n := node.Refs(m, at); n != w.refs(at) {
		t.Fatal("the references of", at, "are", n, "not", w.refs(at))
	}
	for _, label := range []string{p.label, strings.ToUpper(p.label)} {
		if got, ok := node.Find(m, p.parent, label); got != at || !ok {
			t.Fatal("found", got, ok, "not", at)
		}
	}
}

// noNodes answers offsets of a memory, and of some blocks that it gets, where there is no node, and no block of 32 bytes to become one.
func noNodes(t *testing.T, m *memory.Memory) []int {
	t.Helper()
	e, strange, free := entry(t, m, 5, 7), take(t, m, 1), add(t, m, 0, "free")
	m.Store(strange, 1, api.RegLive, 3)
	hold(t, m, free, 1)
	let(t, m, free, 1)
	l := append(extremes(), e, e+16, strange, strange+16, free, free+1, free+16, free+32)
	// Inside one of these blocks there are bytes like those of a node everywhere, and nothing but 0 in the other one.
	like, zero := take(t, m, 9), take(t, m, 9)
	for i := 0; i < 512; i += 16 {
		if i > 0 {
			m.Write(like+i, header(1, 3, 0, 1, 5), api.RegLive)
		}
		l = append(l, like+i, like+i+1, like+i+4, like+i+8, zero+i, zero+i+1)
	}
	return append(l, -32, -16, -1, 4, 8, 16, 64, 80, 128, 240, 1120, 1135, 8304-1024, 8304-32, 8304-16, 8304, 8320, 1<<20)
}

// refused holds that there is no node at an offset, and that none can be made there or, in another block, below.
func refused(t *testing.T, m *memory.Memory, at int, blank int) {
	t.Helper()
	noNode(t, m, at)
	if hash := node.Hash(m, at); hash != 0 {
		t.Error("the hash of", at, hash)
	}
	for _, label := range []string{"www", "", "a b"} {
		missing(t, m, at, label)
	}
	if e := node.Make(m, blank, at, "new"); e != api.ErrKind {
		t.Error("made below", at, e)
	}
	if e := node.Make(m, at, 0, "new"); e != api.ErrKind {
		t.Error("made at", at, e)
	}
}

// noNode holds that there is no node at an offset, which may be that of the root.
func noNode(t *testing.T, m *memory.Memory, at int) {
	t.Helper()
	if e := node.Hold(m, at); e != api.ErrKind {
		t.Error("held", at, e)
	}
	if n, e := node.Let(m, at); n != 0 || e != api.ErrKind {
		t.Error("let", at, n, e)
	}
	if label, e := node.Label(m, at); label != "" || e != api.ErrKind {
		t.Error("the label of", at, label, e)
	}
	if n := node.Refs(m, at); n != 0 {
		t.Error("the references of", at, n)
	}
}

// P21.1 (Begin): the count is 0, whatever it was, and nothing else is changed.
func TestBegin(t *testing.T) {
	for _, c := range configs() {
		b := memory.New(c).Image()
		for i := 20; i < len(b); i++ {
			b[i] = byte(i*37 + i/251 + 1)
		}
		m, e := memory.From(c, b)
		if e != api.OK {
			t.Fatal("from", e)
		}
		if e := node.Begin(m); e != api.OK {
			t.Fatal("begin", e)
		}
		put(b, nodesAt, 0)
		unchanged(t, m, b)
		if n := node.Count(m); n != 0 {
			t.Error("the count is", n)
		}
	}
}

// P21.1 (Count): what the root has.
func TestCount(t *testing.T) {
	m := memory.New(small)
	for _, n := range []int{0, 1, 255, 256, 1 << 16, math.MaxUint32} {
		m.SetRoot(api.RootNodes, uint64(n))
		if got := node.Count(m); got != n {
			t.Error("the count is", got, "not", n)
		}
	}
}

// P21.1 (Class): each length of a label, and each byte of one.
func TestClass(t *testing.T) {
	ends := []int{0, 16, 32, 48, 63} // the greatest length of each class
	for n := range 300 {
		want, e := node.Class(strings.Repeat("w", n))
		if n < 1 || n > 63 {
			if want != 0 || e != api.ErrName {
				t.Error("the class of", n, "is", want, e)
			}
			continue
		}
		if e != api.OK || want < 1 || want > 4 || n <= ends[want-1] || n > ends[want] {
			t.Error("the class of", n, "is", want, e)
		}
	}
	for b := range 256 {
		class, e := node.Class("a" + string([]byte{byte(b)}) + "c")
		if b >= 33 && b <= 126 && b != '.' {
			if class != 1 || e != api.OK {
				t.Error("the class with byte", b, "is", class, e)
			}
		} else if class != 0 || e != api.ErrName {
			t.Error("the class with byte", b, "is", class, e)
		}
	}
}

// P21.1 (nodes), P21.2 (Make): the bytes of three nodes.
func TestBytes(t *testing.T) {
	m := begin(t, small)
	l := grow(t, m, "Org", "EXAMPLE", "www-of-seventeen-")
	if !slices.Equal(l, []int{1136, 1168, 2160}) {
		t.Fatal("taken", l)
	}
	want := m.Image()
	for _, x := range []struct {
		at   int
		text string
	}{
		{1136, "\x02\x01\x00\x03" + "\x00\x00\x00\x00" + "\x01\x00\x00\x00" + "\x55\x8b\x21\x3a" + "org"},
		{1168, "\x02\x01\x00\x07" + "\x70\x04\x00\x00" + "\x01\x00\x00\x00" + "\xad\x9c\x02\x12" + "example"},
		{2160, "\x02\x02\x00\x11" + "\x90\x04\x00\x00" + "\x00\x00\x00\x00" + "\xc9\xe3\xe6\xfa" + "www-of-seventeen-"},
	} {
		clear(want[x.at : x.at+32])
		copy(want[x.at:], x.text)
	}
	put(want, nodesAt, 3)
	same(t, m, want)
}

// P21.1 (nodes, Hash): the hash of a node and of the root, held against the library's; and of nothing else.
func TestHash(t *testing.T) {
	m := begin(t, small)
	if hash := node.Hash(m, 0); hash != rootHash {
		t.Error("the hash of the root is", hash)
	}
	labels := []string{"Org", "example", "A-_9~!", strings.Repeat("Z", 63), "www"}
	for i, at := range grow(t, m, labels...) {
		h := fnv.New32a()
		for _, label := range labels[:i+1] {
			h.Write([]byte(strings.ToLower(label) + "."))
		}
		if hash := node.Hash(m, at); hash != h.Sum32() {
			t.Error("the hash of", at, "is", hash, "not", h.Sum32())
		}
	}
	if hash := node.Hash(m, entry(t, m, 5, 7)); hash != 0 {
		t.Error("the hash of an entry is", hash)
	}
	if hash := node.Hash(m, take(t, m, 1)); hash != 0 {
		t.Error("the hash of a block is", hash)
	}
}

// byHand makes a node in another way: by what the layers below have.
func byHand(t *testing.T, m *memory.Memory, at int, parent int, label string, hash uint32) {
	t.Helper()
	b := api.Block{Tag: api.TagNode, Class: classOf(label), Label: len(label), Name: uint32(parent), Hash: hash}
	if e := head.Put(m, at, b); e != api.OK {
		t.Fatal("put", e)
	}
	m.Write(at+16, []byte(label), api.RegLive)
	if e := index.Insert(m, at); e != api.OK {
		t.Fatal("inserted", e)
	}
	if parent != 0 {
		head.Store(m, parent, api.FieldRefs, head.Load(m, parent, api.FieldRefs)+1)
	}
	m.SetRoot(api.RootNodes, m.Root(api.RootNodes)+1)
}

// P21.2 (Make): labels of each length with all letters, below the root and below nodes: the bytes that must change, and no others.
func TestMake(t *testing.T) {
	var letters []byte
	for c := byte(33); c < 127; c++ {
		if c != '.' {
			letters = append(letters, c)
		}
	}
	for _, c := range configs() {
		m, w := begin(t, c), tree{}
		parents := []int{0}
		for n := 1; n <= 63; n++ {
			label := string(slices.Concat(letters, letters)[n : 2*n])
			parent := parents[n*7%len(parents)]
			at := take(t, m, classOf(label))
			x := twin(t, m)
			w.add(at, parent, label)
			byHand(t, x, at, parent, w[at].label, w[at].hash)
			if e := node.Make(m, at, parent, label); e != api.OK {
				t.Fatal("made", label, e)
			}
			same(t, m, x.Image())
			parents = append(parents, at)
		}
		w.same(t, m)
	}
}

// P21.2 (Make): a block must be of the class of the label.
func TestMakeClass(t *testing.T) {
	for _, n := range []int{1, 15, 16, 17, 32, 33, 48, 49, 63} {
		label := strings.Repeat("x", n)
		for class := 1; class <= 9; class++ {
			m := begin(t, small)
			at := take(t, m, class)
			before := m.Image()
			e := node.Make(m, at, 0, label)
			if class == classOf(label) {
				if e != api.OK {
					t.Error("made", n, "in class", class, e)
				}
				continue
			}
			if e != api.ErrKind {
				t.Error("made", n, "in class", class, e)
			}
			unchanged(t, m, before)
		}
	}
}

// P21.2 (Make): the first four bytes must be 0. The others need not be, for the chapter asks for these alone.
func TestMakeBlank(t *testing.T) {
	for i := range 32 {
		m, w := begin(t, small), tree{}
		parent := add(t, m, 0, "org")
		w.add(parent, 0, "org")
		at := take(t, m, 1)
		m.Store(at+i, 1, api.RegLive, 1)
		before := m.Image()
		e := node.Make(m, at, parent, "sixteen-letters-")
		if i < 4 {
			if e != api.ErrKind {
				t.Error("made with byte", i, e)
			}
			unchanged(t, m, before)
			continue
		}
		if e != api.OK {
			t.Error("made with byte", i, e)
		}
		w.add(at, parent, "sixteen-letters-")
		w.same(t, m)
	}
}

// P21.2 (Make), P21.3, P21.1 (Hash): where there is no node. The root is none either, but nodes may be below it.
func TestKind(t *testing.T) {
	m := begin(t, small)
	l := grow(t, m, "org", "www")
	blank := take(t, m, 1)
	none := noNodes(t, m)
	before := m.Image()
	for _, at := range append(none, l[0]+1, l[0]+4, l[0]+16, l[1]+16, l[1]+31) {
		refused(t, m, at, blank)
		unchanged(t, m, before)
	}
	noNode(t, m, 0)
	// The block that may become a node is none yet, so there is no node below it.
	noNode(t, m, blank)
	missing(t, m, blank, "www")
	for _, at := range []int{0, l[0], l[1]} {
		if e := node.Make(m, at, 0, "new"); e != api.ErrKind {
			t.Error("made at", at, e)
		}
	}
	if e := node.Make(m, blank, blank, "new"); e != api.ErrKind {
		t.Error("made below itself", e)
	}
	unchanged(t, m, before)
	if e := node.Make(m, blank, l[1], "new"); e != api.OK {
		t.Error("made", e)
	}
}

// P21.2 (Make): texts that are no labels.
func TestMakeName(t *testing.T) {
	m := begin(t, small)
	at := take(t, m, 1)
	before := m.Image()
	l := []string{"", "a b", "a.b", ".", " ", strings.Repeat("w", 64), strings.Repeat("w", 1000), "é", "a\x00", "\x7f", "\xff"}
	for _, label := range l {
		if e := node.Make(m, at, 0, label); e != api.ErrName {
			t.Errorf("made %q %d", label, e)
		}
	}
	unchanged(t, m, before)
}

// P21.2 (Make): such a node exists already, whatever the case of letters; below another one it does not, nor does another label.
func TestMakeState(t *testing.T) {
	m, w := begin(t, small), tree{}
	l := grow(t, m, "org", "Example", "www")
	at := take(t, m, 1)
	for i, label := range []string{"org", "example", "www"} {
		for _, variant := range []string{label, strings.ToUpper(label), strings.ToUpper(label[:1]) + label[1:]} {
			before := m.Image()
			if e := node.Make(m, at, []int{0, l[0], l[1]}[i], variant); e != api.ErrState {
				t.Error("made", variant, e)
			}
			unchanged(t, m, before)
		}
	}
	slab.Give(m, at)
	for i, label := range []string{"org", "example", "www"} {
		w.add(l[i], []int{0, l[0], l[1]}[i], label)
	}
	for _, parent := range []int{0, l[0], l[1], l[2]} {
		for _, label := range []string{"org", "example", "www", "ww", "wwww", "exampl", "mail"} {
			if !w.has(parent, label) {
				w.add(add(t, m, parent, label), parent, label)
			}
		}
	}
	w.same(t, m)
}

// P21.2 (Make), R2: of several errors the one that the chapter names first.
func TestMakeErrors(t *testing.T) {
	m := begin(t, small)
	org := add(t, m, 0, "org")
	blank, wide := take(t, m, 1), take(t, m, 2)
	before := m.Image()
	for _, x := range []struct {
		m      *memory.Memory
		at     int
		parent int
		label  string
		want   api.Errno
	}{
		{nil, 0, -1, "", api.ErrNil},
		{&memory.Memory{}, blank, 0, "a b", api.ErrNil},
		{m, -1, -1, "", api.ErrName},
		{m, org, 0, "a b", api.ErrName},
		{m, blank, -1, "a b", api.ErrName},
		{m, blank, blank, "org", api.ErrKind},
		{m, org, 0, "org", api.ErrKind},
		{m, wide, 0, "org", api.ErrKind},
		{m, -1, 0, "org", api.ErrKind},
		{m, blank, 0, "org", api.ErrState},
	} {
		if e := node.Make(x.m, x.at, x.parent, x.label); e != x.want {
			t.Error("made", x.at, x.parent, x.label, e, "not", x.want)
		}
	}
	unchanged(t, m, before)
}

// P21.2 (Make), R6: where the index can't hold the node, as others may have filled it, nothing is changed.
func TestMakeFull(t *testing.T) {
	m := begin(t, small)
	org := add(t, m, 0, "org")
	at := take(t, m, 1)
	m.Write(at+4, bytes.Repeat([]byte{77}, 28), api.RegLive)
	for i, v := range index.Slots(m) {
		if v == 0 {
			m.Store(240+4*i, 4, api.RegSlot, uint64(8304+i))
		}
	}
	before := m.Image()
	for _, parent := range []int{0, org} {
		if e := node.Make(m, at, parent, "sixteen-letters-"); e != api.ErrFull {
			t.Error("made in a full index", e)
		}
		unchanged(t, m, before)
	}
	m.Store(240+4*100, 4, api.RegSlot, uint64(at))
	before = m.Image()
	if e := node.Make(m, at, org, "www"); e != api.ErrState {
		t.Error("made where the index holds the block", e)
	}
	unchanged(t, m, before)
}

// P21.2 (Find): a node is found by its parent and its label, by nothing else.
func TestFind(t *testing.T) {
	m, w := begin(t, small), tree{}
	parents := []int{0}
	for _, label := range []string{"www", "ww", "wwww", "mail", strings.Repeat("w", 63)} {
		for _, parent := range slices.Clone(parents[:min(3, len(parents))]) {
			at := add(t, m, parent, label)
			w.add(at, parent, label)
			parents = append(parents, at)
		}
	}
	w.same(t, m)
	before := m.Image()
	for _, parent := range parents {
		for _, label := range []string{"", "w", "wwx", "www.", "www\x00", "a b", "ｗｗｗ", "maiL\x00", strings.Repeat("w", 62), strings.Repeat("w", 64), strings.Repeat("w", 319)} {
			missing(t, m, parent, label)
		}
		for _, label := range []string{"www", "ww", "mail", strings.Repeat("w", 63)} {
			if !w.has(parent, label) {
				missing(t, m, parent, label)
			}
		}
	}
	for _, parent := range append(extremes(), -1, 1, 8, 16, 240, 1137, 1136+16, 8304, 1<<32, -1<<32, 1<<32+parents[1]) {
		missing(t, m, parent, "www")
	}
	unchanged(t, m, before)
}

// P21.2 (Find): each letter is found in both cases, and no other bytes are the same.
func TestFindCase(t *testing.T) {
	m := begin(t, small)
	at := map[string]int{}
	for c := byte(33); c < 127; c++ {
		if label := "x" + strings.ToLower(string(rune(c))); c != '.' && at[label] == 0 {
			at[label] = add(t, m, 0, "x"+string(rune(c)))
		}
	}
	for c := range 256 {
		label := "x" + string([]byte{byte(c)})
		want := at[label]
		if c >= 'A' && c <= 'Z' {
			want = at[strings.ToLower(label)]
		}
		if got, ok := node.Find(m, 0, label); got != want || ok != (want != 0) {
			t.Errorf("found %d %v, by %q", got, ok, label)
		}
	}
}

// P21.2 (Find): only what the index holds is found. An entry is no node, whatever else it has.
func TestFindHeld(t *testing.T) {
	m := begin(t, small)
	l := grow(t, m, "org", "www")
	e := entry(t, m, l[0], node.Hash(m, l[1]))
	index.Insert(m, e)
	if got, ok := node.Find(m, l[0], "www"); got != l[1] || !ok {
		t.Error("found", got, ok)
	}
	index.Delete(m, l[1])
	missing(t, m, l[0], "www")
	index.Insert(m, l[1])
	if got, ok := node.Find(m, l[0], "www"); got != l[1] || !ok {
		t.Error("found", got, ok)
	}
	if m.Faults() != 0 {
		t.Error("faults", m.Faults())
	}
}

// P21.2 (Find), R1: bytes inside a block that look like a node are none, though the index was made to hold them.
func TestFindInside(t *testing.T) {
	m := begin(t, small)
	parent := add(t, m, 0, "org")
	x := twin(t, m)
	hash := node.Hash(x, add(t, x, parent, "www"))
	at := take(t, m, 9) + 64
	m.Write(at, append(header(1, 3, parent, 1, hash), "www"...), api.RegLive)
	if e := index.Insert(m, at); e != api.OK {
		t.Fatal("inserted", e)
	}
	if got, ok := index.Node(m, uint32(parent), "www", hash); got != at || !ok {
		t.Fatal("the index has", got, ok)
	}
	missing(t, m, parent, "www")
	refused(t, m, at, take(t, m, 1))
	if m.Faults() != 0 {
		t.Error("faults", m.Faults())
	}
}

// P21.2 (Find), R7: below what is neither the root nor a node there is none, though the index was made to hold one that seems to lie there.
func TestFindParent(t *testing.T) {
	m := begin(t, small)
	org, other, blank, at := add(t, m, 0, "org"), entry(t, m, 5, 7), take(t, m, 1), take(t, m, 1)
	for _, parent := range []int{other, blank, blank + 16, 8, 8304, math.MaxUint32, 1 << 32, -1 << 32, 1<<32 + org, -1<<32 + org} {
		for _, hash := range []uint32{0, 7, rootHash, node.Hash(m, org)} {
			m.Write(at, append(header(1, 3, parent, 1, below(hash, "www")), "www"...), api.RegLive)
			if e := index.Insert(m, at); e != api.OK {
				t.Fatal("inserted", e)
			}
			missing(t, m, parent, "www")
			index.Delete(m, at)
		}
	}
	if m.Faults() != 0 {
		t.Error("faults", m.Faults())
	}
}

// P21.3 (Hold, Refs): one more each time, in this node alone, and nothing else is changed.
func TestHold(t *testing.T) {
	m := begin(t, small)
	l := grow(t, m, "org", "example", "www")
	for i, at := range l {
		for range 300 {
			want, n := m.Image(), node.Refs(m, at)
			put(want, at+8, uint32(n+1))
			hold(t, m, at, 1)
			same(t, m, want)
			if got := node.Refs(m, at); got != n+1 {
				t.Fatal("the references are", got, "not", n+1)
			}
		}
		if n := node.Refs(m, at); n != []int{301, 301, 300}[i] {
			t.Error("the references are", n)
		}
	}
}

// P21.3 (Hold, Let, Refs): up to the greatest number that there is room for; beyond, nothing is changed.
func TestMost(t *testing.T) {
	m := begin(t, small)
	at := add(t, m, 0, "org")
	head.Store(m, at, api.FieldRefs, math.MaxUint32-1)
	hold(t, m, at, 1)
	before := m.Image()
	if n := node.Refs(m, at); n != math.MaxUint32 {
		t.Error("the references are", n)
	}
	hold(t, m, at, 1)
	unchanged(t, m, before)
	let(t, m, at, 0)
	if n := node.Refs(m, at); n != math.MaxUint32-1 {
		t.Error("the references are", n)
	}
	add(t, m, at, "a")
	add(t, m, at, "b")
	if n := node.Refs(m, at); n != math.MaxUint32 || m.Faults() != 0 {
		t.Error("the references are", n, "faults", m.Faults())
	}
}

// P21.3 (Let): the chapter's examples.
func TestLetExamples(t *testing.T) {
	m := begin(t, small)
	l := grow(t, m, "org", "example", "www")
	hold(t, m, l[2], 1)
	hold(t, m, l[0], 1)
	let(t, m, l[2], 2)
	if node.Refs(m, l[0]) != 1 || node.Count(m) != 1 {
		t.Error("left", node.Refs(m, l[0]), node.Count(m))
	}
	let(t, m, l[0], 1)
	m = begin(t, small)
	before := m.Image()
	l = grow(t, m, "a", "www")
	if node.Refs(m, l[0]) != 1 || node.Refs(m, l[1]) != 0 {
		t.Error("the references are", node.Refs(m, l[0]), node.Refs(m, l[1]))
	}
	hold(t, m, l[1], 1)
	let(t, m, l[1], 2)
	same(t, m, before)
}

// P21.3 (Let): one less, in this node alone; with the last one it goes, from the index, the count and the blocks, and lets its parent. Nothing else is changed.
func TestLet(t *testing.T) {
	m := begin(t, small)
	l := grow(t, m, "org", "example", strings.Repeat("x", 40), "www")
	hold(t, m, l[3], 3)
	hold(t, m, l[1], 1)
	add(t, m, l[2], "mail")
	for n := uint32(3); n > 1; n-- {
		want := m.Image()
		put(want, l[3]+8, n-1)
		let(t, m, l[3], 0)
		same(t, m, want)
	}
	x := twin(t, m)
	index.Delete(x, l[3])
	slab.Give(x, l[3])
	head.Store(x, l[2], api.FieldRefs, 1)
	x.SetRoot(api.RootNodes, 4)
	let(t, m, l[3], 1)
	same(t, m, x.Image())
	mail, _ := node.Find(m, l[2], "mail")
	hold(t, m, mail, 1)
	for _, at := range []int{mail, l[2]} {
		index.Delete(x, at)
		slab.Give(x, at)
	}
	head.Store(x, l[1], api.FieldRefs, 1)
	x.SetRoot(api.RootNodes, 2)
	let(t, m, mail, 2)
	same(t, m, x.Image())
	let(t, m, l[1], 2)
	same(t, m, begin(t, small).Image())
}

// P21.3 (Let): a node without references.
func TestLetState(t *testing.T) {
	m := begin(t, small)
	l := grow(t, m, "org", "www")
	before := m.Image()
	if n, e := node.Let(m, l[1]); n != 0 || e != api.ErrState {
		t.Error("let", n, e)
	}
	unchanged(t, m, before)
	hold(t, m, l[1], 1)
	let(t, m, l[1], 2)
	if n, e := node.Let(m, l[1]); n != 0 || e != api.ErrKind {
		t.Error("let again", n, e)
	}
}

// P21.3 (Let): as many nodes in a row as a memory has blocks.
func TestLetDeep(t *testing.T) {
	c := api.Config{Slabs: 64, Slots: 2048}
	m := begin(t, c)
	before := m.Image()
	l := grow(t, m, slices.Repeat([]string{"a"}, 2048)...)
	if node.Count(m) != 2048 {
		t.Error("the count is", node.Count(m))
	}
	hold(t, m, l[2047], 1)
	hold(t, m, l[1000], 1)
	let(t, m, l[2047], 2047-1000)
	let(t, m, l[1000], 1001)
	same(t, m, before)
}

// P21.3 (Label): the label in small letters, each one a text of its own.
func TestLabel(t *testing.T) {
	m := begin(t, small)
	for n := 1; n <= 63; n++ {
		label := strings.Repeat("A-Z9", 16)[:n]
		at := add(t, m, 0, label)
		got, e := node.Label(m, at)
		if got != strings.ToLower(label) || e != api.OK {
			t.Error("the label is", got, e)
		}
		hold(t, m, at, 1)
		let(t, m, at, 1)
		if got != strings.ToLower(label) {
			t.Error("the label has become", got)
		}
	}
}

// P21.2, P21.3, R1: a header that is not valid, or a label that does not end in the block, as others may have written them, is no node's.
func TestHeader(t *testing.T) {
	for _, x := range []struct {
		at int
		v  uint64
	}{{0, 0}, {0, 1}, {0, 3}, {1, 0}, {1, 10}, {2, 1}, {2, 2}, {3, 0}, {3, 17}, {3, 63}, {3, 64}, {3, 255}} {
		m := begin(t, small)
		at, blank := add(t, m, 0, "www"), take(t, m, 1)
		hold(t, m, at, 1)
		take(t, m, 1)
		m.Store(at+x.at, 1, api.RegLive, x.v)
		before := m.Image()
		if x.at == 0 && x.v == 0 {
			noNode(t, m, at)
			continue
		}
		refused(t, m, at, blank)
		unchanged(t, m, before)
		missing(t, m, 0, string(before[at+16:at+16+int(before[at+3])]))
	}
}

// P21.2, P21.3, R1: where a part of a block was marked as another kind there is no node, and none is made.
func TestPartly(t *testing.T) {
	for i := 0; i < 48; i += 4 {
		m := begin(t, small)
		label := "seventeen-letters"
		at, part, blank := add(t, m, 0, label), take(t, m, 2), take(t, m, 1)
		m.Mark(at+i, 4, api.RegFree)
		m.Mark(part+i, 4, api.RegFree)
		before := m.Image()
		refused(t, m, at, blank)
		missing(t, m, 0, label)
		if e := node.Make(m, part, 0, "eighteen-letters--"); e != api.ErrKind {
			t.Error("made", e)
		}
		unchanged(t, m, before)
	}
}

// P21.3 (Let), R1: a parent that is no node, or has no references, as others may have written it, ends the way up: what is gone is told.
func TestLetStrange(t *testing.T) {
	for _, parent := range append(extremes(), 0, 1, 8, 240, 8304) {
		if parent < 0 || parent > math.MaxUint32 {
			continue
		}
		m := begin(t, small)
		l := grow(t, m, "org", "www")
		hold(t, m, l[1], 1)
		head.Store(m, l[1], api.FieldName, uint64(parent))
		let(t, m, l[1], 1)
		if node.Refs(m, l[0]) != 1 || node.Count(m) != 1 || m.Faults() != 0 {
			t.Error("left", node.Refs(m, l[0]), node.Count(m), "faults", m.Faults())
		}
	}
	m := begin(t, small)
	l := grow(t, m, "org", "www")
	hold(t, m, l[1], 1)
	head.Store(m, l[0], api.FieldRefs, 0)
	let(t, m, l[1], 1)
	if label, e := node.Label(m, l[0]); label != "org" || e != api.OK || node.Refs(m, l[0]) != 0 || m.Faults() != 0 {
		t.Error("left", label, e, "faults", m.Faults())
	}
}

// P21.3 (Let), R1: nodes in a circle, as others may have written it.
func TestLetCircle(t *testing.T) {
	for n := 1; n < 6; n++ {
		m := begin(t, small)
		l := grow(t, m, "a", "b", "c", "d", "e")[:n]
		hold(t, m, l[n-1], 1)
		head.Store(m, l[0], api.FieldName, uint64(l[n-1]))
		head.Store(m, l[n-1], api.FieldRefs, 1)
		let(t, m, l[n-1], n)
		if m.Faults() != 0 {
			t.Error("faults", m.Faults())
		}
	}
}

// P21.3 (Let), P21.2 (Make), R7: a count that others have written does not go round its ends.
func TestCountEnds(t *testing.T) {
	m := begin(t, small)
	at := add(t, m, 0, "org")
	m.SetRoot(api.RootNodes, math.MaxUint32)
	add(t, m, at, "www")
	if n := node.Count(m); n != math.MaxUint32 {
		t.Error("the count is", n)
	}
	m.SetRoot(api.RootNodes, 0)
	hold(t, m, at+32, 1)
	let(t, m, at+32, 2)
	if n := node.Count(m); n != 0 || m.Faults() != 0 {
		t.Error("the count is", n, "faults", m.Faults())
	}
}

// step does one of Make, Hold and Let, and the same to a tree.
func (w tree) step(t *testing.T, m *memory.Memory, next func(n int) int) {
	t.Helper()
	l := append(w.all(), 0)
	at := l[next(len(l))]
	switch {
	case next(3) == 0 && len(w) < 60:
		label := []string{"a", "B", "cc", "DDD", "seventeen-letters", strings.Repeat("Long", 12), strings.Repeat("w", 63)}[next(7)]
		to, e := slab.Take(m, classOf(label))
		if e != api.OK {
			t.Fatal("taken", e)
		}
		want := api.OK
		if w.has(at, label) {
			want = api.ErrState
		}
		if e := node.Make(m, to, at, label); e != want {
			t.Fatal("made", e, "not", want)
		}
		if want == api.OK {
			w.add(to, at, label)
		} else {
			slab.Give(m, to)
		}
	case at == 0:
	case next(2) == 0:
		w.hold(at, 1)
		hold(t, m, at, 1)
	case w[at].held > 0:
		let(t, m, at, w.let(at))
	case w.refs(at) == 0:
		if n, e := node.Let(m, at); n != 0 || e != api.ErrState {
			t.Fatal("let", n, e)
		}
	}
}

// P21.4: the references are what was added by Hold and the nodes directly below; with the last one a node goes; found is what has the parent and the label; nothing is a fault; and with the last node the memory is as it was.
func TestRandom(t *testing.T) {
	for seed := range uint64(12) {
		c := configs()[seed%3]
		next := numbers(seed)
		m, w := begin(t, c), tree{}
		for range 300 {
			w.step(t, m, next)
			w.same(t, m)
		}
		for len(w) > 0 {
			at := w.all()[next(len(w))]
			if w.refs(at) == 0 {
				w.hold(at, 1)
				hold(t, m, at, 1)
			}
			if w[at].held > 0 {
				let(t, m, at, w.let(at))
			}
		}
		w.same(t, m)
		same(t, m, begin(t, c).Image())
	}
}

// R1: a nil memory, and one that package memory has not made, have no nodes. That is told ahead of all else.
func TestNil(t *testing.T) {
	for _, m := range []*memory.Memory{nil, {}} {
		if e := node.Begin(m); e != api.ErrNil {
			t.Error("begin", e)
		}
		for _, at := range append(extremes(), -1, 0, 8, 240, 1136) {
			for _, label := range []string{"www", "a b", ""} {
				missing(t, m, at, label)
				if e := node.Make(m, at, at, label); e != api.ErrNil {
					t.Error("made", at, e)
				}
			}
			if e := node.Hold(m, at); e != api.ErrNil {
				t.Error("held", at, e)
			}
			if n, e := node.Let(m, at); n != 0 || e != api.ErrNil {
				t.Error("let", at, n, e)
			}
			if label, e := node.Label(m, at); label != "" || e != api.ErrNil {
				t.Error("the label of", at, label, e)
			}
			if node.Hash(m, at) != 0 || node.Refs(m, at) != 0 {
				t.Error("told of", at, node.Hash(m, at), node.Refs(m, at))
			}
		}
		if n := node.Count(m); n != 0 {
			t.Error("the count is", n)
		}
	}
}

// R4: the nodes of two memories are independent of each other.
func TestIndependent(t *testing.T) {
	m, x := begin(t, small), begin(t, small)
	l := grow(t, m, "org", "www")
	k := grow(t, x, "org", "mail")
	before := x.Image()
	hold(t, m, l[1], 1)
	let(t, m, l[1], 2)
	grow(t, m, "com")
	node.Begin(m)
	same(t, x, before)
	missing(t, x, k[0], "www")
}

// R1, R8: before Begin, and on memories of which nothing was begun, each call ends; and the same call has the same result.
func TestNew(t *testing.T) {
	m := memory.New(small)
	before := m.Image()
	noNode(t, m, 1136)
	missing(t, m, 0, "www")
	if e := node.Make(m, 1136, 0, "www"); e != api.ErrKind {
		t.Error("made", e)
	}
	if node.Hash(m, 0) != rootHash || node.Hash(m, 1136) != 0 || node.Count(m) != 0 {
		t.Error("told of nothing")
	}
	unchanged(t, m, before)
}

// wild writes something into a memory that may break its nodes.
func wild(m *memory.Memory, l []int, next func(n int) int) {
	at, v := l[next(len(l))], l[next(len(l))]
	if next(8) == 0 {
		v = next(8400)
	}
	switch next(9) {
	case 0:
		m.Store(240+4*next(224), 4, api.RegSlot, uint64(v))
	case 1:
		m.Store(at+next(4), 1, api.RegLive, uint64(next(70)))
	case 2:
		m.Mark(at+4*next(8), 4*next(3), api.RegFree)
	case 3, 4:
		m.Mark(at, 32, api.RegLive)
	case 5:
		m.Store(128+16*next(7)+4*next(4), 4, api.RegHead, uint64(next(16)))
	case 6:
		m.Store(at+8, 4, api.RegLive, uint64(next(4)))
	case 7:
		m.Store(at+12, 4, api.RegLive, uint64(next(448)))
	default:
		m.Store(at+4, 4, api.RegLive, uint64(v))
	}
}

// P21.4, R1: whatever others have written, each call ends, none panics, and none is a fault.
func TestAnyBytes(t *testing.T) {
	for seed := range uint64(60) {
		next := numbers(seed)
		m := begin(t, small)
		l := grow(t, m, "a", "b", "c", "d", "e", strings.Repeat("f", 30), strings.Repeat("g", 63))
		l = append(l, 0, take(t, m, 1), take(t, m, 2), add(t, m, l[2], "x"), add(t, m, l[2], "y"), entry(t, m, l[3], 5), take(t, m, 9))
		for range 300 {
			wild(m, l[:7], next)
			wild(m, l[8:], next)
			faults := m.Faults()
			at, label := l[next(len(l))], []string{"a", "b", "x", strings.Repeat("f", 30)}[next(4)]
			switch next(4) {
			case 0:
				node.Make(m, l[next(len(l))], at, label)
			case 1:
				node.Hold(m, at)
			case 2:
				if n, _ := node.Let(m, at); n < 0 || n > len(l) {
					t.Fatal("let", n)
				}
			default:
				if got, ok := node.Find(m, at, label); ok {
					if text, e := node.Label(m, got); text != label || e != api.OK {
						t.Fatal("found", text, e, "not", label)
					}
				}
				node.Label(m, at)
			}
			if m.Faults() != faults {
				t.Fatal("faults", m.Faults()-faults)
			}
		}
	}
}
