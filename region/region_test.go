package region_test

import (
	"bytes"
	"math"
	"slices"
	"testing"

	"columbarium/api"
	"columbarium/layout"
	"columbarium/lists"
	"columbarium/memory"
	"columbarium/region"
	"columbarium/slab"
)

// sizes are the bytes of a block of each class, as chapter 8 has them; class 0 has no blocks.
var sizes = [10]int{0, 32, 48, 64, 96, 128, 192, 256, 384, 512}

// What the chapters 9 and 14 have of headers and slabs.
const (
	headers = 128
	header  = 16
	bytesOf = 1024 // of a slab
)

// far is the greatest At and Len of a proper run.
const far = 1 << 40

// small is the smallest configuration: its slabs begin at 1136.
var small = api.Config{Slabs: 7, Slots: 224}

// configs are the smallest configuration, the greatest one, and some between them.
func configs() []api.Config {
	return []api.Config{small, {Slabs: 7, Slots: 226}, {Slabs: 9, Slots: 300}, {Slabs: 31, Slots: 1000}, {Slabs: 64, Slots: 8192}}
}

// base is where the slabs begin.
func base(c api.Config) int { return (headers + header*c.Slabs + 4*c.Slots + 15) / 16 * 16 }

// count is how many blocks a slab of a class has.
func count(class int) int { return bytesOf / sizes[class] }

// numbers answers a function that answers numbers below n, the same ones at each start.
func numbers(seed uint64) func(n int) int {
	return func(n int) int {
		seed = seed*6364136223846793005 + 1442695040888963407
		return int(seed>>33) % n
	}
}

// put lays a number, its lowest byte first.
func put(b []byte, at int, width int, v int) {
	for i := range width {
		b[at+i] = byte(v >> (8 * i))
	}
}

// get reads one.
func get(b []byte, at int, width int) int {
	v := 0
	for i := range width {
		v |= int(b[at+i]) << (8 * i)
	}
	return v
}

// row is a run, written as its At, its Len and its Kind.
type row [3]int

// runs answers the runs of rows.
func runs(rows []row) []api.Run {
	var l []api.Run
	for _, r := range rows {
		l = append(l, api.Run{At: r[0], Len: r[1], Kind: r[2]})
	}
	return l
}

// paint has n bytes be of a kind.
func paint(kinds []int, at int, n int, kind int) {
	for i := range n {
		kinds[at+i] = kind
	}
}

// runsOf answers the runs of kinds.
func runsOf(kinds []int) []api.Run {
	var l []api.Run
	for at, kind := range kinds {
		if at == 0 || kinds[at-1] != kind {
			l = append(l, api.Run{At: at, Kind: kind})
		}
		l[len(l)-1].Len++
	}
	return l
}

// told is what the chapter has of the bytes of an arena: their runs, or that they are wrong.
func told(c api.Config, b []byte) ([]api.Run, bool) {
	kinds := make([]int, len(b))
	paint(kinds, 0, 8, api.RegWord)
	paint(kinds, 8, 120, api.RegRoot)
	paint(kinds, headers, header*c.Slabs, api.RegHead)
	slots := headers + header*c.Slabs
	paint(kinds, slots, 4*c.Slots, api.RegSlot)
	paint(kinds, slots+4*c.Slots, base(c)-slots-4*c.Slots, api.RegPad)
	for i := range c.Slabs {
		if !toldOf(c, b, i, kinds) {
			return nil, false
		}
	}
	return runsOf(kinds), true
}

// toldOf paints the kinds of a slab, and tells whether its bytes are right.
func toldOf(c api.Config, b []byte, i int, kinds []int) bool {
	at := base(c) + bytesOf*i
	class, live, link := get(b, headers+header*i, 2), get(b, headers+header*i+2, 2), get(b, headers+header*i+4, 4)
	if class > 9 {
		return false
	}
	if class == 0 {
		paint(kinds, at, bytesOf, api.RegSlab)
		return live == 0 && link == 0 && bytes.Equal(b[at:at+bytesOf], make([]byte, bytesOf))
	}
	size, n := sizes[class], count(class)
	paint(kinds, at, n*size, api.RegLive)
	paint(kinds, at+n*size, bytesOf-n*size, api.RegPad)
	free := 0
	for ; link != 0; link = get(b, link+4, 4) {
		if link < at || link >= at+n*size || (link-at)%size != 0 || kinds[link] == api.RegFree {
			return false
		}
		paint(kinds, link, size, api.RegFree)
		free++
	}
	return free < n && live == n-free
}

// begin answers a memory of free slabs.
func begin(t *testing.T, c api.Config) *memory.Memory {
	t.Helper()
	m := memory.New(c)
	if e := slab.Begin(m); e != api.OK {
		t.Fatal("begin", e)
	}
	return m
}

// take takes a block and fills it.
func take(t *testing.T, m *memory.Memory, class int) int {
	t.Helper()
	at, e := slab.Take(m, class)
	if e != api.OK || !m.Write(at, bytes.Repeat([]byte{byte(class)}, sizes[class]), api.RegLive) {
		t.Fatal("taken", class, at, e)
	}
	return at
}

// give gives blocks back.
func give(t *testing.T, m *memory.Memory, l ...int) {
	t.Helper()
	for _, at := range l {
		if e := slab.Give(m, at); e != api.OK {
			t.Fatal("given", at, e)
		}
	}
}

// from answers a memory of bytes.
func from(t *testing.T, c api.Config, b []byte) *memory.Memory {
	t.Helper()
	m, e := memory.From(c, b)
	if e != api.OK {
		t.Fatal("from", e)
	}
	return m
}

// maps holds the map of a memory against the chapter.
func maps(t *testing.T, m *memory.Memory) {
	t.Helper()
	want, ok := told(m.Config(), m.Image())
	l, e := region.Map(m)
	if ok && (e != api.OK || !slices.Equal(l, want)) {
		t.Fatal("map", l, e, "not", want)
	}
	if !ok && (e != api.ErrImage || len(l) != 0) {
		t.Fatal("map", l, e, "but the bytes are wrong")
	}
}

// agrees holds a memory's bytes against its kinds: the map is that of the chapter and that of the watch.
func agrees(t *testing.T, m *memory.Memory) {
	t.Helper()
	maps(t, m)
	l, e := region.Map(m)
	if e != api.OK || !slices.Equal(l, m.Runs()) || !region.Agree(m) {
		t.Fatal("map", l, e, "but the kinds are", m.Runs())
	}
	if !region.Tiles(l, layout.Size(m.Config())) {
		t.Fatal("it does not tile", l)
	}
}

// refused holds that bytes have no map, and no memory.
func refused(t *testing.T, c api.Config, b []byte, why ...any) {
	t.Helper()
	m := from(t, c, b)
	if l, e := region.Map(m); len(l) != 0 || e != api.ErrImage {
		t.Error(why, "map", l, e)
	}
	if region.Agree(m) {
		t.Error(why, "agrees")
	}
	if x, e := region.Restore(c, b); x != nil || e != api.ErrImage {
		t.Error(why, "restored", e)
	}
	if !bytes.Equal(m.Image(), b) || m.Looks() != 0 {
		t.Error(why, "changed, or looked at")
	}
}

// mixed is a memory of small in which slab i is of a class: 0 of class 2 with 19 blocks live, 1 of class 9 and full, 2 of class 4 with the last of 10 blocks live, 3 of class 1 and full, 4 and 5 free, 6 of class 8 with the first of 2 live.
func mixed(t *testing.T) *memory.Memory {
	t.Helper()
	m := begin(t, small)
	var l [7][]int
	for i, class := range []int{2, 9, 4, 1, 3, 5, 8} {
		for range count(class) {
			l[i] = append(l[i], take(t, m, class))
		}
	}
	give(t, m, l[0][20], l[0][3])
	give(t, m, l[2][:9]...)
	give(t, m, l[4]...)
	give(t, m, l[5]...)
	give(t, m, l[6][1])
	return m
}

// at is where a slab of small begins, and head where its header does.
func at(i int) int   { return 1136 + bytesOf*i }
func head(i int) int { return headers + header*i }

// P16.1 (Map): the chapter's example, in an arena without padding ahead of the slabs and in one with it.
func TestMapExample(t *testing.T) {
	for _, c := range []struct {
		c    api.Config
		want []api.Run
	}{
		{small, runs([]row{{0, 8, 1}, {8, 120, 2}, {128, 112, 3}, {240, 896, 4}, {1136, 512, 5}, {1648, 512, 6}, {2160, 6144, 7}})},
		{api.Config{Slabs: 7, Slots: 226}, runs([]row{{0, 8, 1}, {8, 120, 2}, {128, 112, 3}, {240, 904, 4}, {1144, 8, 8}, {1152, 512, 5}, {1664, 512, 6}, {2176, 6144, 7}})},
	} {
		m := begin(t, c.c)
		take(t, m, 9)
		if l, e := region.Map(m); e != api.OK || !slices.Equal(l, c.want) {
			t.Error("map", l, e, "not", c.want)
		}
	}
}

// P16.1 (Map): all kinds at once, word by word.
func TestMapMixed(t *testing.T) {
	want := runs([]row{
		{0, 8, 1}, {8, 120, 2}, {128, 112, 3}, {240, 896, 4},
		{1136, 144, 5}, {1280, 48, 6}, {1328, 768, 5}, {2096, 48, 6}, {2144, 16, 8},
		{2160, 1024, 5},
		{3184, 864, 6}, {4048, 96, 5}, {4144, 64, 8},
		{4208, 1024, 5},
		{5232, 2048, 7},
		{7280, 384, 5}, {7664, 384, 6}, {8048, 256, 8},
	})
	m := mixed(t)
	if l, e := region.Map(m); e != api.OK || !slices.Equal(l, want) {
		t.Error("map", l, e, "not", want)
	}
	agrees(t, m)
}

// P16.1 (Map): memories of free slabs, be they in a list or not.
func TestMapNew(t *testing.T) {
	for _, c := range configs() {
		for _, m := range []*memory.Memory{memory.New(c), begin(t, c)} {
			agrees(t, m)
			if l, e := region.Map(m); e != api.OK || !slices.Equal(l, layout.Runs(c)) {
				t.Error(c, "map", l, e)
			}
		}
	}
}

// P16.1, P16.4: slabs of each class, from the first block that is taken to the last one that is given back.
func TestMapClasses(t *testing.T) {
	for _, c := range configs()[:3] {
		for class := 1; class <= 9; class++ {
			m := begin(t, c)
			var l []int
			for range 2*count(class) + 1 {
				l = append(l, take(t, m, class))
				agrees(t, m)
			}
			for i := range l {
				// Their number is odd, so that each is given once, though not in the order in which they were taken.
				give(t, m, l[i*2%len(l)])
				agrees(t, m)
			}
			if !bytes.Equal(m.Image(), begin(t, c).Image()) {
				t.Fatal("not all were given back", c, class)
			}
		}
	}
}

// P16.1 (Map): neighbouring slabs whose blocks are all live have one run if there is no padding between them.
func TestMapJoined(t *testing.T) {
	for class := 1; class <= 9; class++ {
		m := begin(t, small)
		for range 7 * count(class) {
			take(t, m, class)
		}
		l, e := region.Map(m)
		want := 5
		if bytesOf%sizes[class] != 0 {
			want = 4 + 7*2
		}
		if e != api.OK || len(l) != want || l[4].Len != 7*bytesOf && want == 5 {
			t.Error(class, l, e)
		}
		agrees(t, m)
	}
}

// P16.1 (Map): it goes by the bytes alone, whatever the kinds are; nothing is looked at, and nothing is changed.
func TestMapLooksNot(t *testing.T) {
	for kind := api.RegNone; kind <= api.RegPad; kind++ {
		m := mixed(t)
		want, e := region.Map(m)
		if e != api.OK {
			t.Fatal(e)
		}
		m.Mark(0, layout.Size(small), kind)
		image, looks, faults, runs := m.Image(), m.Looks(), m.Faults(), m.Runs()
		if l, e := region.Map(m); e != api.OK || !slices.Equal(l, want) {
			t.Error(kind, l, e)
		}
		if region.Agree(m) {
			t.Error(kind, "agrees")
		}
		if _, e := region.Restore(small, image); e != api.OK {
			t.Error(kind, e)
		}
		if m.Looks() != looks || m.Faults() != faults || !bytes.Equal(m.Image(), image) || !slices.Equal(m.Runs(), runs) {
			t.Error(kind, "changed, or looked at")
		}
	}
}

// P16.1 (Map): memories that are none.
func TestNil(t *testing.T) {
	for _, m := range []*memory.Memory{nil, {}, new(memory.Memory)} {
		if l, e := region.Map(m); len(l) != 0 || e != api.ErrNil {
			t.Error("map", l, e)
		}
		if region.Agree(m) {
			t.Error("agrees")
		}
	}
}

// P16.1 (Map): headers whose class is greater than 9, of a slab that is free and of one that is not.
func TestClasses(t *testing.T) {
	for i := range 7 {
		for _, class := range []int{10, 11, 16, 255, 256, 256 + 2, 257, 0x0900, 0x7fff, 0x8000, 0x8001, 0xffff} {
			b := mixed(t).Image()
			put(b, head(i), 2, class)
			refused(t, small, b, "class", i, class)
		}
	}
}

// P16.1 (Map): a header of another class than the slab's blocks were taken of.
func TestOtherClass(t *testing.T) {
	for i, was := range []int{2, 9, 4, 1, 0, 0, 8} {
		for class := range sizes {
			b := mixed(t).Image()
			put(b, head(i), 2, class)
			// The blocks of two classes can begin where the links lead.
			maps(t, from(t, small, b))
			if class != was && (class == 0 || was == 0) {
				refused(t, small, b, "class", i, class)
			}
		}
	}
}

// P16.1 (Map): free slabs that are said to have live or free blocks.
func TestFreeSlabHeaders(t *testing.T) {
	for _, i := range []int{4, 5} {
		for _, live := range []int{1, 2, 255, 256, 0x8000, 0xffff} {
			b := mixed(t).Image()
			put(b, head(i)+2, 2, live)
			refused(t, small, b, "live", i, live)
		}
		for _, free := range []int{1, 8, 255, 1 << 8, 1 << 16, 1 << 24, 1 << 31, 0xffffffff, at(0), at(i), at(i) + 32, at(i + 1)} {
			b := mixed(t).Image()
			put(b, head(i)+4, 4, free)
			refused(t, small, b, "free", i, free)
		}
	}
}

// P16.1 (Map): each byte of a free slab that is not zero.
func TestFreeSlabBytes(t *testing.T) {
	for _, i := range []int{4, 5} {
		for k := range bytesOf {
			b := mixed(t).Image()
			b[at(i)+k] = byte(1) << (k % 8)
			refused(t, small, b, "byte", i, k)
		}
	}
	m := memory.New(small).Image()
	m[at(0)], m[at(7)-1] = 1, 0
	refused(t, small, m, "the first byte of all")
	m[at(0)], m[at(7)-1] = 0, 1
	refused(t, small, m, "the last byte of all")
}

// P16.1 (Map): links to what is no block of the slab, in headers and in free blocks.
func TestLinks(t *testing.T) {
	wrong := []int{1, 4, 8, 128, 1135, 1 << 20, 1 << 30, 1 << 31, 0xffffffff}
	for i, class := range map[int]int{0: 2, 2: 4, 6: 8} {
		size, n := sizes[class], count(class)
		l := append([]int{
			at(i) - 1, at(i) - size, at(i) + 1, at(i) + 4, at(i) + 16, at(i) + size - 1, at(i) + size + 1, at(i) + size/2,
			at(i) + n*size, at(i) + n*size - 16, at(i) + bytesOf - 1, at(i) + bytesOf, at(i) + bytesOf + size, at(1), at(3), at(5), at(7),
			at(i) + 1<<16, at(i) + 1<<24, at(i) + 1<<31,
		}, wrong...)
		for _, link := range l {
			b := mixed(t).Image()
			first := get(b, head(i)+4, 4)
			put(b, head(i)+4, 4, link)
			refused(t, small, b, "header", i, link)
			put(b, head(i)+4, 4, first)
			put(b, first+4, 4, link)
			refused(t, small, b, "block", i, link)
		}
	}
}

// P16.1 (Map): links to a free block to which one has led before; the number of live blocks is right, so that nothing else is wrong.
func TestLinksTwice(t *testing.T) {
	for _, class := range []int{1, 2, 4, 7} {
		n := count(class)
		for free := 1; free < n; free++ {
			m := begin(t, small)
			var l []int
			for range n {
				l = append(l, take(t, m, class))
			}
			give(t, m, l[:free]...)
			b := m.Image()
			if get(b, l[0]+4, 4) != 0 || get(b, head(0)+4, 4) != l[free-1] {
				t.Fatal("not the links that were expected")
			}
			for _, to := range l[:free] {
				put(b, l[0]+4, 4, to)
				refused(t, small, b, "to", to, "of", free)
			}
			// To a live block, which has a link to the first free one.
			put(b, l[0]+4, 4, l[free])
			put(b, l[free]+4, 4, l[free-1])
			refused(t, small, b, "in a circle", free)
		}
	}
}

// P16.1 (Map): a slab of a class all of whose blocks are free, be it said or not.
func TestAllFree(t *testing.T) {
	for class := 1; class <= 9; class++ {
		n := count(class)
		for _, i := range []int{0, 3, 6} {
			for _, live := range []int{0, 1, n, n - 1, 0xffff} {
				b := memory.New(small).Image()
				put(b, head(i), 2, class)
				put(b, head(i)+2, 2, live)
				put(b, head(i)+4, 4, at(i))
				for k := range n - 1 {
					put(b, at(i)+k*sizes[class]+4, 4, at(i)+(k+1)*sizes[class])
				}
				refused(t, small, b, "class", class, "live", live)
				// With one less it is right if that one is live.
				put(b, at(i)+(n-2)*sizes[class]+4, 4, 0)
				if live == 1 {
					l, e := region.Map(from(t, small, b))
					if e != api.OK || region.At(l, at(i)+(n-1)*sizes[class]) != api.RegLive || region.At(l, at(i)) != api.RegFree {
						t.Error(class, i, l, e)
					}
				} else {
					refused(t, small, b, "class", class, "live", live)
				}
			}
		}
	}
}

// P16.1 (Map): each number of live blocks that is not theirs.
func TestLive(t *testing.T) {
	for i, right := range []int{19, 2, 1, 32, 0, 0, 1} {
		for _, live := range []int{0, 1, 2, 3, 9, 10, 18, 19, 20, 21, 31, 32, 33, 255, 256, 256 + right, 0x8000 + right, 0xffff} {
			b := mixed(t).Image()
			put(b, head(i)+2, 2, live)
			if live != right {
				refused(t, small, b, "live", i, live)
			} else if _, e := region.Map(from(t, small, b)); e != api.OK {
				t.Error("live", i, live, e)
			}
		}
	}
	// A block less than there are, and a count that has gone along.
	b := mixed(t).Image()
	put(b, head(0)+4, 4, at(0)+20*48)
	refused(t, small, b, "a link left out")
	put(b, head(0)+2, 2, 20)
	if l, e := region.Map(from(t, small, b)); e != api.OK || region.At(l, at(0)+3*48) != api.RegLive || region.At(l, at(0)+20*48) != api.RegFree {
		t.Error("a block that is live again", l, e)
	}
}

// P16.1 (Map): an error of any slab, with the others right, in the greatest arena as well.
func TestEachSlab(t *testing.T) {
	for _, c := range configs() {
		for i := range c.Slabs {
			b := memory.New(c).Image()
			put(b, headers+header*i, 2, 9)
			refused(t, c, b, c, "a class alone", i)
			put(b, headers+header*i+2, 2, 2)
			maps(t, from(t, c, b))
			if l, e := region.Map(from(t, c, b)); e != api.OK || region.At(l, base(c)+bytesOf*i+1023) != api.RegLive {
				t.Error(c, i, l, e)
			}
		}
	}
}

// P16.1 (Map): what the chapter does not name is not wrong.
func TestNotNamed(t *testing.T) {
	m := mixed(t)
	want, _ := region.Map(m)
	like := m.Image()
	var l []int
	for k := range small.Slabs {
		for i := 8; i < header; i++ {
			l = append(l, head(k)+i)
		}
	}
	for _, r := range want {
		for i := r.At; i < r.At+r.Len; i++ {
			switch {
			case r.Kind == api.RegWord, r.Kind == api.RegSlot, r.Kind == api.RegLive, r.Kind == api.RegPad:
				l = append(l, i)
			case r.Kind == api.RegRoot && i >= 20:
				l = append(l, i)
			}
		}
	}
	// All of a free block but its link: in slab 6 one is free.
	for i := range 384 {
		if i < 4 || i >= 8 {
			l = append(l, at(6)+384+i)
		}
	}
	b := slices.Clone(like)
	for _, i := range l {
		b[i] ^= 0xff
	}
	for _, b := range [][]byte{like, b} {
		if l, e := region.Map(from(t, small, b)); e != api.OK || !slices.Equal(l, want) {
			t.Error("map", l, e)
		}
		if x, e := region.Restore(small, b); e != api.OK || !slices.Equal(x.Runs(), want) {
			t.Error("restored", e)
		}
	}
}

// P16.1, R1: whatever the bytes are, Map ends and answers what the chapter has of them.
func TestMapAnyBytes(t *testing.T) {
	right, wrong := 0, 0
	for k, c := range configs() {
		next := numbers(uint64(k) + 7)
		for range 400 {
			b := memory.New(c).Image()
			for i := range c.Slabs {
				strange(b, c, i, next)
			}
			m := from(t, c, b)
			maps(t, m)
			if _, e := region.Map(m); e == api.OK {
				right++
			} else {
				wrong++
			}
		}
	}
	if right < 100 || wrong < 100 {
		t.Error("too few", right, wrong)
	}
}

// strange lays a slab, seldom a wrong one.
func strange(b []byte, c api.Config, i int, next func(n int) int) {
	class := next(10)
	if class == 0 {
		return
	}
	first, n := base(c)+bytesOf*i, count(class)
	free, link := next(n), headers+header*i+4
	k, step := next(n), []int{1, 11, 13, 17, 19, 23}[next(6)]
	for range free {
		put(b, link, 4, first+k*sizes[class])
		link = first + k*sizes[class] + 4
		k = (k + step) % n
	}
	put(b, headers+header*i, 2, class)
	put(b, headers+header*i+2, 2, n-free)
	if next(40) == 0 {
		put(b, link, 4, base(c)+next(bytesOf*c.Slabs)/16*16)
	}
	if next(80) == 0 {
		put(b, headers+header*i, 2, next(12))
	}
}

// P16.2 (Tiles): runs that tile, and all that can be wrong with one of them.
func TestTiles(t *testing.T) {
	right := runs([]row{{0, 4, 5}, {4, 1, 5}, {5, 7, 1}, {12, 100, 8}})
	if !region.Tiles(right, 112) || !region.Tiles(right[:1], 4) || !region.Tiles(right[:3], 12) {
		t.Error("they tile")
	}
	for _, n := range []int{math.MinInt, -112, -1, 0, 4, 5, 12, 111, 113, math.MaxInt} {
		if region.Tiles(right, n) {
			t.Error("not", n)
		}
	}
	for i, r := range right {
		for _, w := range runs([]row{
			{r.At + 1, r.Len, r.Kind}, {r.At - 1, r.Len, r.Kind}, {r.At, r.Len + 1, r.Kind}, {r.At, r.Len - 1, r.Kind},
			{r.At + 1, r.Len - 1, r.Kind}, {r.At - 1, r.Len + 1, r.Kind}, {r.At, 0, r.Kind}, {r.At, -r.Len, r.Kind},
			{r.At, r.Len, 0}, {r.At, r.Len, 9}, {r.At, r.Len, -1}, {r.At, r.Len, math.MinInt}, {r.At, r.Len, math.MaxInt}, {r.At, r.Len, 256 + 5},
			{}, {math.MinInt, r.Len, r.Kind}, {r.At, math.MaxInt, r.Kind}, {r.At, math.MinInt, r.Kind},
		}) {
			l := slices.Clone(right)
			l[i] = w
			if region.Tiles(l, 112) {
				t.Error(i, w)
			}
		}
		if region.Tiles(slices.Delete(slices.Clone(right), i, i+1), 112) || region.Tiles(slices.Insert(slices.Clone(right), i, r), 112) {
			t.Error("one less, or one more", i)
		}
		if region.Tiles(slices.Insert(slices.Clone(right), i, api.Run{At: r.At, Len: 0, Kind: r.Kind}), 112) {
			t.Error("an empty one", i)
		}
	}
	if region.Tiles(runs([]row{{4, 8, 5}, {0, 4, 5}}), 12) || region.Tiles(runs([]row{{4, 8, 5}}), 12) {
		t.Error("not from 0 on, or not in order")
	}
}

// P16.2 (Tiles): no runs tile no bytes; each kind from 1 to 8 may be.
func TestTilesEdges(t *testing.T) {
	if !region.Tiles(nil, 0) || !region.Tiles([]api.Run{}, 0) || region.Tiles(nil, 1) || region.Tiles(nil, -1) {
		t.Error("no runs")
	}
	for kind := -2; kind <= 11; kind++ {
		if region.Tiles(runs([]row{{0, 3, kind}}), 3) != (kind >= 1 && kind <= 8) {
			t.Error("kind", kind)
		}
	}
	if region.Tiles(runs([]row{{0, 4, 5}, {5, 4, 5}}), 9) {
		t.Error("the chapter's example")
	}
}

// P16.2 (Tiles): a run that is not proper tiles nothing, and no sum wraps round.
func TestTilesFar(t *testing.T) {
	for _, c := range []struct {
		l    []api.Run
		n    int
		want bool
	}{
		{runs([]row{{0, far, 5}}), far, true},
		{runs([]row{{0, far + 1, 5}}), far + 1, false},
		{runs([]row{{0, far, 5}, {far, far, 6}}), 2 * far, true},
		{runs([]row{{0, far, 5}, {far, 1, 6}, {far + 1, 1, 6}}), far + 2, false},
		{runs([]row{{0, far - 1, 5}, {far - 1, 1, 6}, {far, 1, 6}}), far + 1, true},
		{runs([]row{{0, math.MaxInt, 5}}), math.MaxInt, false},
		{runs([]row{{0, math.MaxInt, 5}, {math.MaxInt, math.MaxInt, 5}, {-2, 2, 5}}), 0, false},
		{runs([]row{{0, math.MinInt, 5}, {math.MinInt, math.MinInt, 5}}), 0, false},
		{runs([]row{{0, 4, 5}, {4, -4, 5}}), 0, false},
		{runs([]row{{-4, 4, 5}}), 0, false},
	} {
		if region.Tiles(c.l, c.n) != c.want {
			t.Error(c.l, c.n)
		}
	}
}

// P16.2 (Joined): neighbours that touch and have one kind, and such as do not.
func TestJoined(t *testing.T) {
	for _, c := range []struct{ l, want []api.Run }{
		{nil, nil},
		{runs([]row{{3, 4, 5}}), runs([]row{{3, 4, 5}})},
		{runs([]row{{0, 4, 5}, {4, 4, 5}, {8, 1, 6}}), runs([]row{{0, 8, 5}, {8, 1, 6}})},
		{runs([]row{{0, 4, 5}, {4, 4, 5}, {8, 1, 5}, {9, 2, 5}}), runs([]row{{0, 11, 5}})},
		{runs([]row{{7, 4, 5}, {11, 4, 6}, {15, 1, 6}, {16, 1, 5}, {17, 3, 5}}), runs([]row{{7, 4, 5}, {11, 5, 6}, {16, 4, 5}})},
		{runs([]row{{0, 4, 5}, {4, 4, 6}, {8, 4, 5}}), runs([]row{{0, 4, 5}, {4, 4, 6}, {8, 4, 5}})},
		// A gap, and bytes that both have.
		{runs([]row{{0, 4, 5}, {5, 4, 5}}), runs([]row{{0, 4, 5}, {5, 4, 5}})},
		{runs([]row{{0, 4, 5}, {3, 4, 5}}), runs([]row{{0, 4, 5}, {3, 4, 5}})},
		{runs([]row{{0, 4, 5}, {0, 4, 5}}), runs([]row{{0, 4, 5}, {0, 4, 5}})},
		// They touch, but are not neighbours.
		{runs([]row{{0, 4, 5}, {9, 1, 5}, {4, 4, 5}}), runs([]row{{0, 4, 5}, {9, 1, 5}, {4, 4, 5}})},
		// Runs of no bytes touch others as well.
		{runs([]row{{0, 0, 5}, {0, 4, 5}, {4, 0, 5}, {4, 0, 5}, {4, 1, 5}}), runs([]row{{0, 5, 5}})},
		{runs([]row{{0, 4, 5}, {4, 0, 6}, {4, 4, 5}}), runs([]row{{0, 4, 5}, {4, 0, 6}, {4, 4, 5}})},
		// Kinds need not exist.
		{runs([]row{{0, 4, 0}, {4, 4, 0}, {8, 1, -3}, {9, 1, -3}, {10, 2, 900}, {12, 2, 900}}), runs([]row{{0, 8, 0}, {8, 2, -3}, {10, 4, 900}})},
	} {
		if l := region.Joined(c.l); !slices.Equal(l, c.want) {
			t.Error(c.l, "become", l, "not", c.want)
		}
	}
}

// P16.2 (Joined): runs that are not proper are joined with none.
func TestJoinedNotProper(t *testing.T) {
	for _, rows := range [][]row{
		{{-4, 4, 5}, {0, 4, 5}},
		{{-8, 4, 5}, {-4, 4, 5}},
		{{0, 4, 5}, {4, -1, 5}},
		{{0, 4, 5}, {4, -4, 5}, {0, 4, 5}},
		{{0, far + 1, 5}, {far + 1, 4, 5}},
		{{0, 4, 5}, {4, far + 1, 5}},
		{{1, far, 5}, {far + 1, 4, 5}},
		{{far + 1, 1, 5}, {far + 2, 1, 5}},
		{{4, -4, 5}, {0, 4, 5}},
		{{8, -4, 5}, {4, -4, 5}},
		{{1, math.MaxInt, 5}, {math.MinInt, 1, 5}},
		{{math.MaxInt, 1, 5}, {math.MinInt, 1, 5}},
		{{math.MinInt, math.MinInt, 5}, {0, 4, 5}},
	} {
		l := runs(rows)
		if x := region.Joined(l); !slices.Equal(x, l) {
			t.Error(l, "become", x)
		}
	}
	// The edges of what is proper.
	for _, c := range []struct{ l, want []api.Run }{
		{runs([]row{{0, far, 5}, {far, far, 5}}), runs([]row{{0, 2 * far, 5}})},
		{runs([]row{{0, far, 5}, {far, 0, 5}, {far, 1, 5}}), runs([]row{{0, far + 1, 5}})},
		{runs([]row{{far, 0, 5}, {far, far, 5}, {2 * far, 0, 5}}), runs([]row{{far, far, 5}, {2 * far, 0, 5}})},
	} {
		if l := region.Joined(c.l); !slices.Equal(l, c.want) {
			t.Error(c.l, "become", l, "not", c.want)
		}
	}
}

// R3: Joined does not change its argument, and shares no memory with it.
func TestJoinedNew(t *testing.T) {
	for _, rows := range [][]row{{{0, 4, 5}, {4, 4, 5}, {8, 1, 6}}, {{0, 4, 5}}, {{0, 4, 5}, {4, 4, 6}}} {
		l, kept := runs(rows), runs(rows)
		x := region.Joined(l)
		if !slices.Equal(l, kept) {
			t.Error("changed", l)
		}
		clear(x)
		if !slices.Equal(l, kept) {
			t.Error("shared", l)
		}
	}
}

// P16.2 (At): the first run that contains a byte; a run that is not proper contains none.
func TestAt(t *testing.T) {
	l := runs([]row{{4, 4, 5}, {8, 0, 3}, {6, 10, 6}, {-4, 20, 1}, {20, -4, 2}, {100, far + 1, 4}, {far, far, 7}, {far + 1, far, 8}, {0, 1, -9}, {1, 1, 77}})
	for at, want := range map[int]int{
		4: 5, 5: 5, 6: 5, 7: 5, 8: 6, 9: 6, 15: 6, 16: 0, 17: 0, 18: 0, 19: 0, 20: 0,
		0: -9, 1: 77, 2: 0, 3: 0, -1: 0, -4: 0, 99: 0, 100: 0, 1000: 0,
		far - 1: 0, far: 7, far + 1: 7, 2*far - 1: 7, 2 * far: 0, 2*far + 1: 0,
		math.MinInt: 0, math.MaxInt: 0,
	} {
		if kind := region.At(l, at); kind != want {
			t.Error(at, kind, "not", want)
		}
	}
	if region.At(nil, 0) != 0 {
		t.Error("no runs")
	}
}

// P16.2 (At): sums that wrap round contain nothing.
func TestAtFar(t *testing.T) {
	for _, r := range runs([]row{{math.MaxInt, math.MaxInt, 5}, {math.MinInt, math.MaxInt, 5}, {math.MinInt, math.MinInt, 5}, {-1, math.MaxInt, 5}, {0, math.MaxInt, 5}, {0, math.MinInt, 5}, {0, far + 1, 5}}) {
		for _, at := range []int{math.MinInt, math.MinInt + 1, -2, -1, 0, 1, far, math.MaxInt - 1, math.MaxInt} {
			if kind := region.At([]api.Run{r}, at); kind != 0 {
				t.Error(r, at, kind)
			}
		}
	}
}

// P16.2 (At): each byte of a map has the kind that the watch has.
func TestAtOfMap(t *testing.T) {
	m := mixed(t)
	l, _ := region.Map(m)
	for i := range layout.Size(small) {
		if region.At(l, i) != m.Kind(i, 1) {
			t.Fatal(i, region.At(l, i), m.Kind(i, 1))
		}
	}
	if region.At(l, -1) != 0 || region.At(l, layout.Size(small)) != 0 {
		t.Error("outside")
	}
}

// P16.3 (Agree): any four bytes of another kind, and bytes that were changed behind the watch.
func TestAgree(t *testing.T) {
	m := mixed(t)
	for i := 0; i < layout.Size(small); i += 4 {
		was := m.Kind(i, 4)
		for _, kind := range []int{api.RegNone, api.RegLive, api.RegFree, api.RegSlab, api.RegPad} {
			m.Mark(i, 4, kind)
			if region.Agree(m) != (kind == was) {
				t.Fatal(i, kind, was)
			}
		}
		m.Mark(i, 4, was)
	}
	agrees(t, m)
	// A memory of these bytes has the kinds of a new one.
	if region.Agree(from(t, small, m.Image())) {
		t.Error("live blocks in free slabs")
	}
	if !region.Agree(from(t, small, begin(t, small).Image())) {
		t.Error("free slabs")
	}
	lists.Set(m, 1, 9, 1, 0)
	if region.Agree(m) {
		t.Error("a count")
	}
	lists.Set(m, 1, 9, 2, 0)
	agrees(t, m)
	// Right bytes, but other ones than those that the calls have left.
	lists.Set(m, 1, 9, 1, uint32(at(1)))
	m.Zero(at(1), 8, api.RegLive)
	if _, e := region.Map(m); e != api.OK || region.Agree(m) {
		t.Error("a block that is free but for the watch", e)
	}
}

// P16.3 (Restore): the memory is that of the bytes: it has their kinds, nobody has looked at it, and it shares nothing with them.
func TestRestore(t *testing.T) {
	for _, m := range []*memory.Memory{mixed(t), memory.New(small), begin(t, configs()[4])} {
		c, b := m.Config(), m.Image()
		kept := slices.Clone(b)
		x, e := region.Restore(c, b)
		if e != api.OK || x.Config() != c || !bytes.Equal(x.Image(), b) || !slices.Equal(x.Runs(), m.Runs()) {
			t.Fatal("restored", e)
		}
		if x.Looks() != 0 || x.Faults() != 0 || !bytes.Equal(b, kept) {
			t.Error("looked at, or changed")
		}
		clear(b)
		if !bytes.Equal(x.Image(), kept) {
			t.Error("shared")
		}
		y, e := region.Restore(c, kept)
		if e != api.OK || !x.SetRoot(api.RootHand, 9) || y.Root(api.RootHand) != m.Root(api.RootHand) {
			t.Error("two that are not independent", e)
		}
	}
}

// P16.3 (Restore): the errors of memory.From, ahead of those of Map.
func TestRestoreErrors(t *testing.T) {
	right := mixed(t).Image()
	flawed := slices.Clone(right)
	flawed[130]++
	for _, b := range [][]byte{right, flawed, nil, right[16:]} {
		for _, c := range []api.Config{{}, {Slabs: 6, Slots: 224}, {Slabs: 7, Slots: 225}, {Slabs: 65, Slots: 8192}, {Slabs: -7, Slots: 224}, {Slabs: math.MaxInt, Slots: math.MinInt}} {
			if m, e := region.Restore(c, b); m != nil || e != api.ErrConfig {
				t.Error(c, e)
			}
		}
	}
	for _, b := range [][]byte{nil, {}, right[:16], right[16:], right[:len(right)-1], append(slices.Clone(right), 0), append(slices.Clone(right), right...)} {
		if m, e := region.Restore(small, b); m != nil || e != api.ErrImage {
			t.Error(len(b), e)
		}
	}
	if m, e := region.Restore(api.Config{Slabs: 8, Slots: 256}, right); m != nil || e != api.ErrImage {
		t.Error("another config", e)
	}
	// The magic number, and the numbers of slabs and slots.
	for i := 8; i < 20; i++ {
		b := slices.Clone(right)
		b[i]++
		if m, e := region.Restore(small, b); m != nil || e != api.ErrImage {
			t.Error("byte", i, e)
		}
	}
	// The chapter's example.
	if m, e := region.Restore(small, flawed); m != nil || e != api.ErrImage {
		t.Error("the third byte of the first header", e)
	}
	if _, e := region.Restore(small, right); e != api.OK {
		t.Error("right", e)
	}
}

// P16.4: whatever is taken and given, Map agrees with the watch, and what is restored goes on as the original does.
func TestWhatever(t *testing.T) {
	for k, c := range configs() {
		next := numbers(uint64(k) + 41)
		m := begin(t, c)
		var live []int
		for step := range 600 {
			live = change(t, m, next, live)
			agrees(t, m)
			if step%40 != 0 {
				continue
			}
			x, e := region.Restore(c, m.Image())
			if e != api.OK {
				t.Fatal(e)
			}
			goesOn(t, m, x, next)
			x, e = region.Restore(c, m.Image())
			if e != api.OK {
				t.Fatal(e)
			}
			m = x
		}
		give(t, m, live...)
		agrees(t, m)
		if !bytes.Equal(m.Image(), begin(t, c).Image()) {
			t.Error(c, "not all were given back")
		}
	}
}

// change takes a block, or gives one back, and answers which ones are live then. There are times of much taking and of much giving.
func change(t *testing.T, m *memory.Memory, next func(n int) int, live []int) []int {
	t.Helper()
	if len(live) == 0 || next(10) < 3+next(5) {
		class := 1 + next(9)
		at, e := slab.Take(m, class)
		if e == api.OK {
			m.Write(at, bytes.Repeat([]byte{byte(1 + next(255))}, sizes[class]), api.RegLive)
			return append(live, at)
		}
		if e != api.ErrFull {
			t.Fatal("taken", class, e)
		}
		return live
	}
	i := next(len(live))
	give(t, m, live[i])
	return slices.Delete(live, i, i+1)
}

// goesOn holds what a memory and a restored one become by the same calls against each other.
func goesOn(t *testing.T, m *memory.Memory, x *memory.Memory, next func(n int) int) {
	t.Helper()
	was := m.Faults()
	same := func() {
		t.Helper()
		if !bytes.Equal(m.Image(), x.Image()) || !slices.Equal(m.Runs(), x.Runs()) || m.Faults() != was || x.Faults() != 0 {
			t.Fatal("another memory")
		}
	}
	same()
	var l []int
	for range 12 {
		class := 1 + next(9)
		a, e := slab.Take(m, class)
		b, f := slab.Take(x, class)
		if a != b || e != f {
			t.Fatal("taken", a, e, b, f)
		}
		if e == api.OK {
			l = append(l, a)
		}
		same()
	}
	for _, i := range l {
		if slab.Give(m, i) != api.OK || slab.Give(x, i) != api.OK {
			t.Fatal("given", i)
		}
		same()
	}
}

// R4: the same call answers the same, and an answer belongs to the caller.
func TestSame(t *testing.T) {
	m := mixed(t)
	want, _ := region.Map(m)
	for range 5 {
		l, e := region.Map(m)
		if e != api.OK || !slices.Equal(l, want) {
			t.Fatal(l, e)
		}
		clear(l)
		_ = append(l[:0], api.Run{At: 1, Len: 1, Kind: 1})
	}
	agrees(t, m)
}
