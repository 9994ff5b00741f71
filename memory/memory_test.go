package memory_test

import (
	"bytes"
	"math"
	"reflect"
	"slices"
	"testing"

	"columbarium/api"
	"columbarium/memory"
)

// kinds is the number of kinds, and fields of the fields of the root.
const (
	kinds  = 9
	fields = 21
)

// small is the smallest configuration: its slots begin at 240, its slabs at 1136, and it ends at 8304. Padded is one with padding, from 1144 to 1152.
var (
	small  = api.Config{Slabs: 7, Slots: 224}
	padded = api.Config{Slabs: 7, Slots: 226}
)

// extremes are ints far beyond a memory's bytes; some are offsets, sizes and kinds that may be once their high bits are lost.
func extremes() []int {
	l := []int{math.MinInt, math.MinInt + 1, math.MinInt + 8, math.MaxInt, math.MaxInt - 3, math.MaxInt - 7, math.MaxInt - 15}
	for bit := 14; bit < 63; bit++ {
		l = append(l, 1<<bit-8, 1<<bit-1, 1<<bit, 1<<bit+1, 1<<bit+5, 1<<bit+8, -1<<bit, -1<<bit+1, -1<<bit+5, -1<<bit+8)
	}
	return l
}

// numbers answers a function that answers numbers below n, the same ones at each start.
func numbers(seed uint32) func(n int) int {
	return func(n int) int {
		seed = seed*1664525 + 1013904223
		return int(seed>>8) % n
	}
}

// valid tells whether a configuration may be.
func valid(c api.Config) bool {
	return c.Slabs >= 7 && c.Slabs <= 64 && c.Slots%2 == 0 && c.Slots >= 32*c.Slabs && c.Slots <= 8192
}

// configs are all numbers of slabs that are near an end, each with numbers of slots near its ends.
func configs() []api.Config {
	l := []api.Config{{}, {Slabs: 7}, {Slots: 224}, {Slabs: -7, Slots: 224}, {Slabs: 7, Slots: -224}, {Slabs: 1<<32 + 7, Slots: 224}, {Slabs: 7, Slots: 1<<32 + 224}, {Slabs: math.MaxInt, Slots: math.MaxInt}, {Slabs: math.MinInt, Slots: math.MinInt}}
	for _, slabs := range []int{0, 1, 5, 6, 7, 8, 9, 31, 32, 33, 62, 63, 64, 65, 66, 256, 257} {
		for i := -3; i <= 4; i++ {
			l = append(l, api.Config{Slabs: slabs, Slots: 32*slabs + i}, api.Config{Slabs: slabs, Slots: 8192 + i}, api.Config{Slabs: slabs, Slots: 5001 + i})
		}
	}
	return l
}

// model is what a memory must be: bytes and their kinds.
type model struct {
	bytes  []byte
	kinds  []int
	looks  int
	faults int
}

// modelOf is the model of a new memory: each part is added to those ahead of it.
func modelOf(c api.Config) *model {
	m := &model{}
	add := func(kind int, n int) {
		for range n {
			m.bytes, m.kinds = append(m.bytes, 0), append(m.kinds, kind)
		}
	}
	add(api.RegWord, 8)
	add(api.RegRoot, 120)
	for range c.Slabs {
		add(api.RegHead, 16)
	}
	for range c.Slots {
		add(api.RegSlot, 4)
	}
	for len(m.bytes)%16 != 0 {
		add(api.RegPad, 1)
	}
	for range c.Slabs {
		add(api.RegSlab, 1024)
	}
	m.put(8, 4, 1129270338)
	m.put(12, 4, uint64(c.Slabs))
	m.put(16, 4, uint64(c.Slots))
	return m
}

// put writes a number, its lowest byte first, wherever it lies.
func (m *model) put(at int, width int, v uint64) {
	for i := range width {
		m.bytes[at+i] = byte(v >> (8 * i))
	}
}

// inside tells whether n bytes from an offset on exist.
func (m *model) inside(at int, n int) bool {
	size := len(m.bytes)
	return at >= 0 && at <= size && n >= 0 && n <= size && at+n <= size
}

// look is Look of the watch.
func (m *model) look(at int, width int, kind int) bool {
	m.looks++
	right := (width == 1 || width == 2 || width == 4 || width == 8) && at%width == 0 && m.inside(at, width) && kind != 0
	for i := 0; right && i < width; i++ {
		right = m.kinds[at+i] == kind
	}
	if !right {
		m.faults++
	}
	return right
}

// each is what Read, View, Write and Zero look at.
func (m *model) each(at int, n int, kind int) bool {
	if !m.inside(at, n) {
		return m.look(-1, 1, kind)
	}
	for i := range n {
		if !m.look(at+i, 1, kind) {
			return false
		}
	}
	return true
}

// load is Load.
func (m *model) load(at int, width int, kind int) uint64 {
	v := uint64(0)
	if m.look(at, width, kind) {
		for i := range width {
			v |= uint64(m.bytes[at+i]) << (8 * i)
		}
	}
	return v
}

// store is Store.
func (m *model) store(at int, width int, kind int, v uint64) bool {
	if !m.look(at, width, kind) || width < 8 && v>>(8*width) != 0 {
		return false
	}
	m.put(at, width, v)
	return true
}

// read is Read, and what View answers.
func (m *model) read(at int, n int, kind int) []byte {
	if !m.each(at, n, kind) {
		return nil
	}
	return slices.Clone(m.bytes[at : at+n])
}

// write is Write, and Zero of zero bytes.
func (m *model) write(at int, b []byte, kind int) bool {
	if !m.each(at, len(b), kind) {
		return false
	}
	copy(m.bytes[at:], b)
	return true
}

// mark is Mark.
func (m *model) mark(at int, n int, kind int) api.Errno {
	switch {
	case kind < 0 || kind > 8:
		return api.ErrArg
	case !m.inside(at, n):
		return api.ErrRange
	case at%4 != 0 || n%4 != 0:
		return api.ErrAlign
	}
	for i := range n {
		m.kinds[at+i] = kind
	}
	return api.OK
}

// kind is Kind.
func (m *model) kind(at int, n int) int {
	if n < 1 || !m.inside(at, n) {
		return 0
	}
	for i := range n {
		if m.kinds[at+i] != m.kinds[at] {
			return 0
		}
	}
	return m.kinds[at]
}

// runs is Runs: each byte is added to the last run, or begins a new one.
func (m *model) runs() []api.Run {
	var l []api.Run
	for at, kind := range m.kinds {
		if n := len(l); n > 0 && l[n-1].Kind == kind {
			l[n-1].Len++
		} else {
			l = append(l, api.Run{At: at, Len: 1, Kind: kind})
		}
	}
	return l
}

// offset is where a field of the root lies, and its width: each one follows the one ahead of it.
func offset(field int) (int, int) {
	at := 8
	for i := range fields {
		width := 4
		if i == 16 {
			width = 8
		}
		if i == field {
			return at, width
		}
		at += width
	}
	return 0, 0
}

// create is New of a configuration that may be, and the model of it.
func create(t *testing.T, c api.Config) (*memory.Memory, *model) {
	t.Helper()
	x := memory.New(c)
	if x == nil {
		t.Fatal("no memory", c)
	}
	return x, modelOf(c)
}

// counted holds the counters of a memory against its model.
func counted(t *testing.T, x *memory.Memory, m *model, after ...any) {
	t.Helper()
	if x.Looks() != m.looks || x.Faults() != m.faults {
		t.Fatalf("after %v: %d looks, %d faults; want %d, %d", after, x.Looks(), x.Faults(), m.looks, m.faults)
	}
}

// same holds the bytes, kinds and counters of a memory against its model.
func same(t *testing.T, x *memory.Memory, m *model, after ...any) {
	t.Helper()
	counted(t, x, m, after...)
	if b := x.Image(); !bytes.Equal(b, m.bytes) {
		t.Fatalf("after %v: other bytes, %d of them", after, len(b))
	}
	if l := x.Runs(); !slices.Equal(l, m.runs()) {
		t.Fatalf("after %v: runs %v; want %v", after, l, m.runs())
	}
}

// striped is a memory with rows of several kinds and lengths at the start of its first slab, live ones at both ends of all its bytes, and no zero byte behind its first fields; and its model.
func striped(t *testing.T) (*memory.Memory, *model) {
	t.Helper()
	m := modelOf(small)
	for i := 20; i < len(m.bytes); i++ {
		m.bytes[i] = byte(1 + i%251)
	}
	x, e := memory.From(small, m.bytes)
	if e != api.OK {
		t.Fatal("From", e)
	}
	for _, run := range []api.Run{{At: 0, Len: 8, Kind: api.RegLive}, {At: 1136, Len: 16, Kind: api.RegLive}, {At: 1152, Len: 4, Kind: api.RegFree}, {At: 1156, Len: 12, Kind: api.RegLive}, {At: 1168, Len: 4, Kind: api.RegNone}, {At: 1172, Len: 4, Kind: api.RegPad}, {At: 8288, Len: 16, Kind: api.RegLive}} {
		if x.Mark(run.At, run.Len, run.Kind) != api.OK || m.mark(run.At, run.Len, run.Kind) != api.OK {
			t.Fatal("Mark", run)
		}
	}
	return x, m
}

// offsets are those near the borders of the parts and rows of a striped memory, those that no memory has, and the extremes.
func offsets() []int {
	l := extremes()
	for _, row := range [][2]int{{-9, 25}, {120, 136}, {1128, 1184}, {8280, 8313}} {
		for at := row[0]; at < row[1]; at++ {
			l = append(l, at)
		}
	}
	return l
}

// sizes are numbers of bytes, few ones, negative ones, and those that end at an end or beyond it.
func sizes() []int {
	l := append(extremes(), 7168, 8295, 8296, 8303, 8304, 8305)
	for n := -9; n <= 36; n++ {
		l = append(l, n)
	}
	return l
}

// P12.1: a new memory: its bytes, kinds, counters and configuration; and none of a configuration that may not be.
func TestNew(t *testing.T) {
	for _, c := range configs() {
		x := memory.New(c)
		if (x != nil) != valid(c) {
			t.Fatal("New", c, x != nil)
		}
		if x == nil {
			continue
		}
		if x.Config() != c {
			t.Error("Config", x.Config(), c)
		}
		same(t, x, modelOf(c), "New", c)
		if x.Root(api.RootMagic) != api.Magic || x.Root(api.RootSlabs) != uint64(c.Slabs) || x.Root(api.RootSlots) != uint64(c.Slots) {
			t.Error("the root", c)
		}
	}
}

// P12.1, P12.2: on what New and From return nobody has looked.
func TestNothingIsLookedAt(t *testing.T) {
	x, m := create(t, small)
	if x.Looks() != 0 || x.Faults() != 0 {
		t.Error("New", x.Looks(), x.Faults())
	}
	if x.Load(0, 1, api.RegFree) != 0 || x.Faults() != 1 {
		t.Error("Load")
	}
	y, e := memory.From(small, m.bytes)
	if e != api.OK || y.Looks() != 0 || y.Faults() != 0 {
		t.Error("From", e)
	}
}

// P12.1: a memory of an image has all its bytes, and the kinds of a new one.
func TestFrom(t *testing.T) {
	below := numbers(3)
	for _, c := range configs() {
		if !valid(c) {
			continue
		}
		m := modelOf(c)
		for i := range m.bytes {
			if i < 8 || i >= 20 {
				m.bytes[i] = byte(below(256))
			}
		}
		x, e := memory.From(c, m.bytes)
		if e != api.OK || x == nil {
			t.Fatal("From", c, e)
		}
		if x.Config() != c {
			t.Error("Config", x.Config(), c)
		}
		same(t, x, m, "From", c)
	}
}

// P12.1: the errors of From, the first one of several, and no memory beside them.
func TestErrorsOfFrom(t *testing.T) {
	check := func(c api.Config, image []byte, want api.Errno) {
		t.Helper()
		if x, e := memory.From(c, image); e != want || x != nil {
			t.Errorf("From(%v, %d bytes) = %v, %d; want %d", c, len(image), x != nil, e, want)
		}
	}
	image := memory.New(small).Image()
	for _, c := range configs() {
		switch {
		case !valid(c):
			check(c, image, api.ErrConfig)
			check(c, nil, api.ErrConfig)
		case c != small:
			check(c, image, api.ErrImage)
			check(c, memory.New(c).Image()[1:], api.ErrImage)
		}
	}
	check(small, nil, api.ErrImage)
	check(small, image[16:], api.ErrImage)
	for _, n := range []int{1, 8, 16, 20, 96, 128, 8288, 8303} {
		check(small, image[:n], api.ErrImage)
	}
	for _, n := range []int{1, 4, 15, 16, 1024, 1 << 20} {
		check(small, append(slices.Clone(image), make([]byte, n)...), api.ErrImage)
	}
	// As many bytes, but of another configuration.
	for _, l := range [][2]api.Config{{{Slabs: 7, Slots: 226}, {Slabs: 7, Slots: 228}}, {{Slabs: 7, Slots: 516}, {Slabs: 8, Slots: 256}}} {
		a, b := memory.New(l[0]).Image(), memory.New(l[1]).Image()
		if len(a) != len(b) {
			t.Fatal("sizes", l)
		}
		check(l[0], b, api.ErrImage)
		check(l[1], a, api.ErrImage)
	}
}

// P12.1: an image in which one bit is other: only the fields with the numbers 0, 1 and 2 are held against what they must be.
func TestFromHoldsTheStamp(t *testing.T) {
	image := memory.New(padded).Image()
	for bit := range 8 * 160 {
		b := slices.Clone(image)
		b[bit/8] ^= 1 << (bit % 8)
		x, e := memory.From(padded, b)
		if stamped := bit >= 8*8 && bit < 8*20; stamped != (e == api.ErrImage) || stamped != (x == nil) {
			t.Fatal("bit", bit, e)
		}
		if x != nil && !bytes.Equal(x.Image(), b) {
			t.Error("other bytes", bit)
		}
	}
	if _, e := memory.From(padded, make([]byte, len(image))); e != api.ErrImage {
		t.Error("noughts", e)
	}
}

// P12.1: a memory has its own bytes: neither the image that it was made from nor one that it answered.
func TestImagesAreCopies(t *testing.T) {
	image := memory.New(small).Image()
	x, e := memory.From(small, image)
	y, f := memory.From(small, image)
	if e != api.OK || f != api.OK {
		t.Fatal("From", e, f)
	}
	if !x.SetRoot(api.RootHand, 7) || x.Mark(0, 8, api.RegLive) != api.OK {
		t.Fatal("SetRoot")
	}
	same(t, y, modelOf(small), "changing another one")
	if !bytes.Equal(image, modelOf(small).bytes) {
		t.Error("the argument has changed")
	}
	clear(image)
	clear(x.Image())
	if y.Root(api.RootSlabs) != 7 || x.Root(api.RootHand) != 7 {
		t.Error("a memory has changed")
	}
}

// P12.2: loads at many offsets, of all widths and for all kinds.
func TestLoad(t *testing.T) {
	x, m := striped(t)
	for _, at := range offsets() {
		for _, width := range append(sizes(), 1<<32+4, 1<<56+8) {
			for kind := -1; kind <= kinds; kind++ {
				if got, want := x.Load(at, width, kind), m.load(at, width, kind); got != want {
					t.Fatalf("Load(%d, %d, %d) = %d; want %d", at, width, kind, got, want)
				}
			}
			counted(t, x, m, "Load", at, width)
		}
	}
	for _, kind := range append(extremes(), 1<<32+api.RegLive, 256+api.RegLive) {
		if x.Load(1136, 4, kind) != 0 || m.load(1136, 4, kind) != 0 {
			t.Error("kind", kind)
		}
	}
	same(t, x, m, "Load")
}

// P12.2: stores at many offsets, of all widths, for all kinds, of numbers that fit and others: one that is refused changes nothing, but it is a look.
func TestStore(t *testing.T) {
	x, m := striped(t)
	below := numbers(5)
	for _, at := range offsets() {
		for _, width := range []int{-8, -4, -1, 0, 1, 2, 3, 4, 5, 6, 7, 8, 9, 16, 1<<32 + 4, math.MinInt, math.MaxInt} {
			for kind := range kinds {
				v := uint64(1+below(255)) << (8 * below(9))
				if got, want := x.Store(at, width, kind, v), m.store(at, width, kind, v); got != want {
					t.Fatalf("Store(%d, %d, %d, %d) = %v; want %v", at, width, kind, v, got, want)
				}
				counted(t, x, m, "Store", at, width, kind)
			}
		}
		same(t, x, m, "Store", at)
	}
}

// P12.2: the greatest number that fits into each width, and the next one, which is refused without a fault.
func TestStoreHoldsTheNumber(t *testing.T) {
	x, m := striped(t)
	for _, width := range []int{1, 2, 4} {
		top := uint64(1)<<(8*width) - 1
		for _, v := range []uint64{0, 1, top - 1, top, top + 1, top + 2, 1 << 63, math.MaxUint64} {
			if got, want := x.Store(1144, width, api.RegLive, v), v <= top; got != want || got != m.store(1144, width, api.RegLive, v) {
				t.Errorf("Store of %d in %d bytes = %v", v, width, got)
			}
			if v <= top && x.Load(1144, width, api.RegLive) != m.load(1144, width, api.RegLive) {
				t.Errorf("Load of %d in %d bytes", v, width)
			}
			same(t, x, m, "Store", width, v)
		}
	}
	if !x.Store(1144, 8, api.RegLive, math.MaxUint64) || x.Load(1144, 8, api.RegLive) != math.MaxUint64 {
		t.Error("the greatest number")
	}
	if x.Faults() != 0 {
		t.Error("faults", x.Faults())
	}
}

// P12.2: reads and views of many rows of bytes: as many looks as there are bytes up to the first one of another kind, or one if not all bytes exist.
func TestReadAndView(t *testing.T) {
	x, m := striped(t)
	for _, at := range offsets() {
		for _, n := range sizes() {
			for _, kind := range []int{0, 2, 5, 6, 7, 8, 9, -1} {
				want := m.read(at, n, kind)
				if got := x.Read(at, n, kind); !bytes.Equal(got, want) {
					t.Fatalf("Read(%d, %d, %d) = %v; want %v", at, n, kind, got, want)
				}
				counted(t, x, m, "Read", at, n, kind)
				m.each(at, n, kind)
				if got := x.View(at, n, kind); !bytes.Equal(got, want) || cap(got) != len(got) {
					t.Fatalf("View(%d, %d, %d) = %v of %d; want %v", at, n, kind, got, cap(got), want)
				}
				counted(t, x, m, "View", at, n, kind)
			}
		}
	}
	same(t, x, m, "Read, View")
}

// P12.2: what Read answers is the caller's; what View answers are the bytes themselves, and no others.
func TestCopiesAndViews(t *testing.T) {
	x, m := striped(t)
	b := x.Read(1136, 16, api.RegLive)
	clear(b)
	_ = append(b[:0], bytes.Repeat([]byte{9}, cap(b))...)
	m.each(1136, 16, api.RegLive)
	same(t, x, m, "changing a copy")

	v := x.View(1140, 4, api.RegLive)
	m.each(1140, 4, api.RegLive)
	v[0], v[3] = 0xfe, 0xfd
	m.bytes[1140], m.bytes[1143] = 0xfe, 0xfd
	same(t, x, m, "changing a view")
	_ = append(v, 1, 2, 3)
	same(t, x, m, "appending to a view")
	if !x.Store(1140, 4, api.RegLive, 0x04030201) || !bytes.Equal(v, []byte{1, 2, 3, 4}) {
		t.Error("a view does not show what is stored", v)
	}
	if w := x.View(1142, 2, api.RegLive); !bytes.Equal(w, []byte{3, 4}) {
		t.Error("a second view", w)
	}
}

// P12.2: writes of bytes and of zero bytes, at many offsets: all of them or none, and in either case the looks are counted.
func TestWriteAndZero(t *testing.T) {
	x, m := striped(t)
	for _, at := range offsets() {
		for _, n := range append(sizes(), 1<<14) {
			for _, kind := range []int{0, 2, 5, 6, 8, 9, -1} {
				if n >= 0 && n <= 1<<14 {
					b := bytes.Repeat([]byte{byte(at + n), byte(kind), 77}, n/3+1)[:n]
					if got, want := x.Write(at, b, kind), m.write(at, b, kind); got != want {
						t.Fatalf("Write(%d, %d bytes, %d) = %v; want %v", at, n, kind, got, want)
					}
					counted(t, x, m, "Write", at, n, kind)
				}
				want := m.each(at, n, kind)
				if want {
					clear(m.bytes[at : at+n])
				}
				if got := x.Zero(at, n, kind); got != want {
					t.Fatalf("Zero(%d, %d, %d) = %v; want %v", at, n, kind, got, want)
				}
				counted(t, x, m, "Zero", at, n, kind)
			}
		}
		same(t, x, m, "Write, Zero", at)
	}
}

// P12.2: no bytes are no looks, from the first offset to the one behind the last byte, whatever their kind; elsewhere they are a fault.
func TestNoBytes(t *testing.T) {
	x, m := striped(t)
	for _, at := range offsets() {
		inside := at >= 0 && at <= 8304
		for _, kind := range []int{-1, 0, 5, 9, math.MaxInt} {
			for name, done := range map[string]bool{"Write": x.Write(at, nil, kind), "Write of none": x.Write(at, []byte{}, kind), "Zero": x.Zero(at, 0, kind)} {
				if done != inside {
					t.Fatal(name, at, kind, done)
				}
			}
			if len(x.Read(at, 0, kind)) != 0 || len(x.View(at, 0, kind)) != 0 {
				t.Fatal("bytes", at, kind)
			}
			if !inside {
				m.looks, m.faults = m.looks+5, m.faults+5
			}
			counted(t, x, m, at, kind)
		}
	}
	same(t, x, m, "no bytes")
}

// P12.2: the looks, one by one: how many there are until one is refused.
func TestCountsOfLooks(t *testing.T) {
	for _, l := range []struct {
		at, n, kind   int
		looks, faults int
	}{
		{1136, 16, api.RegLive, 16, 0}, {1136, 17, api.RegLive, 17, 1}, {1136, 32, api.RegLive, 17, 1}, {1151, 2, api.RegLive, 2, 1}, {1152, 2, api.RegLive, 1, 1},
		{1168, 4, api.RegNone, 1, 1}, {8303, 1, api.RegLive, 1, 0}, {8303, 2, api.RegLive, 1, 1}, {8304, 0, api.RegLive, 0, 0}, {8304, 1, api.RegLive, 1, 1}, {8305, 0, api.RegLive, 1, 1},
		{-1, 0, api.RegLive, 1, 1}, {-1, 1, api.RegLive, 1, 1}, {-4, 8, api.RegLive, 1, 1}, {0, 8305, api.RegLive, 1, 1}, {0, 8304, api.RegLive, 9, 1}, {0, math.MaxInt, api.RegLive, 1, 1}, {math.MaxInt, math.MaxInt, api.RegLive, 1, 1}, {1141, 3, api.RegLive, 3, 0}, {1136, 0, api.RegFree, 0, 0},
		{1136, -1, api.RegLive, 1, 1}, {1136, math.MinInt, api.RegLive, 1, 1},
	} {
		for name, call := range map[string]func(x *memory.Memory) bool{
			"Read":  func(x *memory.Memory) bool { return l.n == 0 || x.Read(l.at, l.n, l.kind) != nil },
			"View":  func(x *memory.Memory) bool { return l.n == 0 || x.View(l.at, l.n, l.kind) != nil },
			"Write": func(x *memory.Memory) bool { return x.Write(l.at, make([]byte, min(max(l.n, 0), 10000)), l.kind) },
			"Zero":  func(x *memory.Memory) bool { return x.Zero(l.at, l.n, l.kind) },
		} {
			if l.n == 0 && (name == "Read" || name == "View") || l.n < 0 && name == "Write" {
				continue
			}
			x, _ := striped(t)
			if call(x) != (l.faults == 0) || x.Looks() != l.looks || x.Faults() != l.faults {
				t.Errorf("%s(%d, %d, %d): %d looks, %d faults; want %d, %d", name, l.at, l.n, l.kind, x.Looks(), x.Faults(), l.looks, l.faults)
			}
		}
	}
}

// P12.2: the argument of Write is read alone; what is written may be a view of the same memory.
func TestWriteOfViews(t *testing.T) {
	x, m := striped(t)
	b := []byte("abcdef")
	if !x.Write(1136, b, api.RegLive) || string(b) != "abcdef" {
		t.Error("Write")
	}
	b[0] = 'x'
	if string(x.Read(1136, 6, api.RegLive)) != "abcdef" {
		t.Error("the argument is kept")
	}
	if !x.Write(1138, x.View(1136, 6, api.RegLive), api.RegLive) || string(x.Read(1136, 8, api.RegLive)) != "ababcdef" {
		t.Error("Write of a view")
	}
	copy(m.bytes[1136:], "ababcdef")
	if !bytes.Equal(x.Image(), m.bytes) {
		t.Error("other bytes have changed")
	}
}

// P12.2: Mark and Kind answer as those of a watch, and count nothing.
func TestMarkAndKind(t *testing.T) {
	x, m := striped(t)
	for _, at := range offsets() {
		for _, n := range sizes() {
			for _, kind := range []int{-1, 0, 3, 8, 9, math.MinInt, math.MaxInt, 256, 1<<32 + 1} {
				if got, want := x.Mark(at, n, kind), m.mark(at, n, kind); got != want {
					t.Fatalf("Mark(%d, %d, %d) = %d; want %d", at, n, kind, got, want)
				}
			}
			if got, want := x.Kind(at, n), m.kind(at, n); got != want {
				t.Fatalf("Kind(%d, %d) = %d; want %d", at, n, got, want)
			}
		}
	}
	same(t, x, m, "Mark, Kind")
	x, _ = striped(t)
	for _, row := range [][3]int{{1136, 16, 5}, {1136, 20, 0}, {1152, 4, 6}, {1168, 4, 0}, {1172, 4, 8}, {8288, 16, 5}, {8288, 17, 0}, {8, 120, 2}, {7, 2, 0}, {0, 0, 0}} {
		if k := x.Kind(row[0], row[1]); k != row[2] {
			t.Error("Kind", row, k)
		}
	}
}

// P12.3: where each field lies, and how many bytes it has: what Root reads was written into the image, and what SetRoot writes is found there.
func TestFields(t *testing.T) {
	for field := range fields {
		at, width := offset(field)
		x, m := create(t, padded)
		top := uint64(math.MaxUint64) >> (64 - 8*width)
		for _, v := range []uint64{top, 0, 0x81 << (8 * (width - 1)), 1, 0x0807060504030201 & top, top - 1} {
			if !x.SetRoot(field, v) || x.Root(field) != v {
				t.Errorf("field %d: %d, after SetRoot of %d", field, x.Root(field), v)
			}
			m.put(at, width, v)
			m.looks += 2
			same(t, x, m, "SetRoot", field, v)
			if x.Load(at, width, api.RegRoot) != v {
				t.Error("Load", field)
			}
			m.looks++
		}
		if width == 4 {
			for _, v := range []uint64{1 << 32, 1<<32 + 1, 1 << 63, math.MaxUint64} {
				if x.SetRoot(field, v) {
					t.Error("SetRoot", field, v)
				}
				m.looks++
			}
			same(t, x, m, "SetRoot of more than fits", field)
		}
	}
}

// P12.3: fields that the root does not have: they are nothing, and nobody looks.
func TestOtherFields(t *testing.T) {
	x, m := create(t, padded)
	for _, field := range append(extremes(), -9, -2, -1, 21, 22, 23, 64, 255, 256, 257, 1<<32+1) {
		if x.Root(field) != 0 || x.SetRoot(field, 1) || x.SetRoot(field, 0) {
			t.Error("field", field)
		}
	}
	same(t, x, m, "other fields")
}

// P12.3: a field is read and written for the kind of the root alone.
func TestFieldsOfOtherKinds(t *testing.T) {
	for field := range fields {
		for kind := range kinds {
			at, width := offset(field)
			x, m := create(t, padded)
			if !x.SetRoot(field, 77) || x.Mark(at, width, kind) != api.OK {
				t.Fatal("field", field)
			}
			right := kind == api.RegRoot
			if got := x.Root(field); right != (got == 77) || !right && got != 0 {
				t.Error("Root", field, kind, got)
			}
			if x.SetRoot(field, 88) != right {
				t.Error("SetRoot", field, kind)
			}
			m.mark(at, width, kind)
			m.put(at, width, 77)
			m.looks = 3
			if right {
				m.put(at, width, 88)
			} else {
				m.faults = 2
			}
			same(t, x, m, "a field of another kind", field, kind)
		}
	}
}

// P12.3: the examples.
func TestExamplesOfFields(t *testing.T) {
	x := memory.New(padded)
	if x.Root(api.RootSlots) != 226 || x.Root(api.RootMagic) != 1129270338 || x.Root(0) != 0x434f4c42 {
		t.Error("Root")
	}
	if !x.SetRoot(api.RootClock, 1<<40) || x.Root(api.RootClock) != 1<<40 || x.SetRoot(api.RootHand, 1<<32) || x.Root(api.RootHand) != 0 {
		t.Error("SetRoot")
	}
}

// P12.1, P12.2: the examples of accesses.
func TestExamples(t *testing.T) {
	x := memory.New(padded)
	if x.Write(1152, []byte("abc"), api.RegLive) || x.Faults() != 1 {
		t.Error("Write into a free slab", x.Faults())
	}
	if x.Mark(1152, 64, api.RegLive) != api.OK || !x.Write(1152+61, []byte("abc"), api.RegLive) || x.Write(1152+62, []byte("abc"), api.RegLive) {
		t.Error("Write")
	}
	if v := x.Load(1152+60, 4, api.RegLive); v != 0x63626100 {
		t.Error("Load", v)
	}
	if _, e := memory.From(padded, x.Image()[16:]); e != api.ErrImage {
		t.Error("From", e)
	}

	x = memory.New(small)
	if x.Root(0) != 1129270338 || x.Store(1136, 4, api.RegFree, 1) || x.Faults() != 1 {
		t.Error("a store that is not permitted", x.Faults())
	}
	if x.Mark(1136, 32, api.RegFree) != api.OK || !x.Store(1136, 4, api.RegFree, 1) || x.Load(1136, 4, api.RegFree) != 1 || x.Faults() != 1 {
		t.Error("the same store", x.Faults())
	}
}

// P12.4: the runs, which belong to the caller.
func TestRuns(t *testing.T) {
	x, m := create(t, padded)
	want := []api.Run{{At: 0, Len: 8, Kind: 1}, {At: 8, Len: 120, Kind: 2}, {At: 128, Len: 112, Kind: 3}, {At: 240, Len: 904, Kind: 4}, {At: 1144, Len: 8, Kind: 8}, {At: 1152, Len: 7168, Kind: 7}}
	l := x.Runs()
	if !slices.Equal(l, want) {
		t.Error("runs", l)
	}
	clear(l)
	same(t, x, m, "clearing runs")
	if l = memory.New(small).Runs(); len(l) != 5 || l[4] != (api.Run{At: 1136, Len: 7168, Kind: 7}) {
		t.Error("runs without padding", l)
	}
}

// P12.4: what bytes a memory has.
func TestHas(t *testing.T) {
	x, m := create(t, small)
	for _, b := range [][]byte{nil, {}, {0}, {'B', 'L', 'O', 'C'}, {7, 0, 0, 0, 224}, make([]byte, 8287), m.bytes} {
		if !x.Has(b) {
			t.Error("not there", len(b))
		}
	}
	for _, b := range [][]byte{{1}, {'B', 'L', 'O', 'C', 1}, {224, 7}, make([]byte, 8288), append(slices.Clone(m.bytes), 0)} {
		if x.Has(b) {
			t.Error("there", len(b))
		}
	}
	if x.Mark(8272, 32, api.RegLive) != api.OK || !x.Write(8301, []byte("end"), api.RegLive) || !x.Has([]byte("end")) || x.Has([]byte("nd\x00")) {
		t.Error("the end")
	}
	if x.Looks() != 3 || x.Faults() != 0 {
		t.Error("Has looks", x.Looks())
	}
}

// P12.4: of a nil memory and of a zero value there is nothing, and nothing is counted.
func TestNilAndZero(t *testing.T) {
	for name, x := range map[string]*memory.Memory{"nil": nil, "zero": {}} {
		for _, at := range []int{0, 1, 4, 8, 1136, -1, math.MaxInt} {
			for _, n := range []int{0, 1, 4, 8, -1, math.MaxInt} {
				for _, kind := range []int{0, 1, 2, 5, 8, 9, -1} {
					if x.Load(at, n, kind) != 0 || x.Store(at, n, kind, 0) || len(x.Read(at, n, kind)) != 0 || len(x.View(at, n, kind)) != 0 || x.Zero(at, n, kind) || x.Write(at, []byte("a"), kind) || x.Write(at, nil, kind) {
						t.Fatal(name, "access", at, n, kind)
					}
					if e := x.Mark(at, n, kind); e != api.ErrNil {
						t.Fatal(name, "Mark", at, n, kind, e)
					}
				}
				if x.Kind(at, n) != 0 {
					t.Fatal(name, "Kind", at, n)
				}
			}
		}
		for _, field := range []int{-1, 0, 1, 2, 16, 20, 21, math.MinInt, math.MaxInt} {
			if x.Root(field) != 0 || x.SetRoot(field, 0) {
				t.Error(name, "field", field)
			}
		}
		if x.Config() != (api.Config{}) || x.Looks() != 0 || x.Faults() != 0 || len(x.Runs()) != 0 || len(x.Image()) != 0 || x.Has(nil) || x.Has([]byte{0}) {
			t.Error(name, x.Config(), x.Looks(), x.Faults(), x.Runs(), x.Image())
		}
		if x != nil && !reflect.DeepEqual(*x, memory.Memory{}) {
			t.Error("the zero value has changed")
		}
	}
}

// P12.5: each field changes bytes of its own, which no other field has and which lie inside the root.
func TestFieldsAreApart(t *testing.T) {
	owner := map[int]int{}
	for field := range fields {
		x, m := create(t, padded)
		for other := range fields {
			if !x.SetRoot(other, 0) {
				t.Fatal("SetRoot", other)
			}
		}
		before := x.Image()
		if !bytes.Equal(before, make([]byte, len(m.bytes))) {
			t.Fatal("bytes that no field has")
		}
		if !x.SetRoot(field, math.MaxUint32) || field == api.RootClock && !x.SetRoot(field, math.MaxUint64) {
			t.Fatal("SetRoot", field)
		}
		for at, b := range x.Image() {
			if b == before[at] {
				continue
			}
			if last, ok := owner[at]; ok || at < 8 || at >= 128 {
				t.Error("byte", at, "of", field, "and", last)
			}
			owner[at] = field
		}
		for other := range fields {
			if other != field && x.Root(other) != 0 {
				t.Error("field", other, "shows", field)
			}
		}
	}
	if len(owner) != 20*4+8 {
		t.Error("bytes of fields", len(owner))
	}
}

// P12.5: for every byte of a memory, no other kind than its own gets at it.
func TestKindsAreApart(t *testing.T) {
	x, m := create(t, padded)
	for at := range m.bytes {
		for kind := range kinds {
			right := m.kinds[at] == kind
			if (len(x.View(at, 1, kind)) == 1) != right || x.Zero(at, 1, kind) != right || x.Write(at, []byte{9}, kind) != right || x.Store(at, 1, kind, 9) != right || (x.Load(at, 1, kind) == 9) != right || (len(x.Read(at, 1, kind)) == 1) != right {
				t.Fatal("byte", at, "of", m.kinds[at], "as", kind)
			}
		}
	}
	if x.Looks() != 6*kinds*len(m.bytes) || x.Faults() != 6*(kinds-1)*len(m.bytes) {
		t.Error("counters", x.Looks(), x.Faults())
	}
}

// P12.2 to P12.5: scripts of all calls, right ones and wrong ones, are answered as by the model.
func TestScripts(t *testing.T) {
	below := numbers(12)
	for range 20 {
		x, m := create(t, padded)
		for step := range 400 {
			at, n, kind := 1100+below(200), below(24)-2, below(kinds)
			if below(4) != 0 {
				kind = m.kind(at, 1)
			}
			width := 1 << below(5)
			if below(2) == 0 {
				at = at / width * width
			}
			v := uint64(below(1<<24)) << (8 * below(6))
			b := bytes.Repeat([]byte{byte(step)}, max(n, 0))
			ok := true
			switch below(9) {
			case 0:
				ok = x.Mark(at/4*4, 4*n, kind) == m.mark(at/4*4, 4*n, kind)
			case 1:
				other := below(kinds+2) - 1
				ok = x.Mark(at, n, other) == m.mark(at, n, other)
			case 2:
				ok = x.Load(at, width, kind) == m.load(at, width, kind)
			case 3:
				ok = x.Store(at, width, kind, v) == m.store(at, width, kind, v)
			case 4:
				ok = bytes.Equal(x.Read(at, n, kind), m.read(at, n, kind))
			case 5:
				ok = bytes.Equal(x.View(at, n, kind), m.read(at, n, kind))
			case 6:
				ok = x.Write(at, b, kind) == m.write(at, b, kind)
			case 7:
				ok = x.Zero(at, len(b), kind) == m.write(at, make([]byte, len(b)), kind)
			case 8:
				if below(16) == 0 {
					x, m = again(t, x, m)
				}
			}
			if !ok {
				t.Fatal("step", step, at, n, kind, width, v)
			}
		}
		same(t, x, m, "a script")
	}
}

// again makes a memory of the image of another one: the kinds and the counters are those of a new one.
func again(t *testing.T, x *memory.Memory, m *model) (*memory.Memory, *model) {
	t.Helper()
	y, e := memory.From(padded, x.Image())
	if e != api.OK {
		t.Fatal("From", e)
	}
	n := modelOf(padded)
	n.bytes = m.bytes
	same(t, y, n, "From")
	return y, n
}
