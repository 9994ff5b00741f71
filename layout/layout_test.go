package layout_test

import (
	"math"
	"slices"
	"testing"

	"columbarium/api"
	"columbarium/layout"
)

// valid is the document's reading of a config that may be.
func valid(c api.Config) bool {
	if c.Slabs < 7 || c.Slabs > 64 {
		return false
	}
	return c.Slots%2 == 0 && c.Slots >= 32*c.Slabs && c.Slots <= 8192
}

// all are the configs that are valid.
func all() []api.Config {
	var l []api.Config
	for slabs := 7; slabs <= 64; slabs++ {
		for slots := 32 * slabs; slots <= 8192; slots += 2 {
			l = append(l, api.Config{Slabs: slabs, Slots: slots})
		}
	}
	return l
}

// some are valid configs, those at the ends among them, with padding and without.
func some() []api.Config {
	var l []api.Config
	for _, slabs := range []int{7, 8, 9, 31, 32, 63, 64} {
		for _, slots := range []int{32 * slabs, 32*slabs + 2, 32*slabs + 4, 32*slabs + 6, 4098, 8186, 8188, 8190, 8192} {
			l = append(l, api.Config{Slabs: slabs, Slots: slots})
		}
	}
	return l
}

// wrong are configs that are not valid, in one way or in several.
func wrong() []api.Config {
	l := []api.Config{
		{}, {Slabs: 7}, {Slots: 224}, {Slabs: 224, Slots: 7},
		{Slabs: 6, Slots: 192}, {Slabs: 6, Slots: 224}, {Slabs: 65, Slots: 2080}, {Slabs: 65, Slots: 8192},
		{Slabs: 7, Slots: 222}, {Slabs: 7, Slots: 223}, {Slabs: 7, Slots: 225}, {Slabs: 7, Slots: 8191}, {Slabs: 7, Slots: 8193}, {Slabs: 7, Slots: 8194},
		{Slabs: 64, Slots: 2046}, {Slabs: 64, Slots: 2047}, {Slabs: 64, Slots: 2049}, {Slabs: 64, Slots: 8193}, {Slabs: 64, Slots: 8194},
		{Slabs: 8, Slots: 254}, {Slabs: 33, Slots: 1054},
		{Slabs: -7, Slots: -224}, {Slabs: -7, Slots: 224}, {Slabs: 7, Slots: -224}, {Slabs: 0, Slots: 224}, {Slabs: 7, Slots: 0},
	}
	for _, n := range extremes() {
		l = append(l, api.Config{Slabs: n, Slots: 224}, api.Config{Slabs: n, Slots: 8192}, api.Config{Slabs: 7, Slots: n}, api.Config{Slabs: 64, Slots: n}, api.Config{Slabs: n, Slots: n})
	}
	return l
}

// extremes are ints far beyond what an arena has; some are valid numbers of slabs or slots once their high bits are lost.
func extremes() []int {
	l := []int{math.MinInt, math.MinInt + 1, math.MinInt + 7, math.MinInt + 224, math.MaxInt, math.MaxInt - 1, math.MaxInt - 1024}
	for bit := 20; bit < 63; bit++ {
		l = append(l, 1<<bit-1, 1<<bit, 1<<bit+1, 1<<bit+7, 1<<bit+224, 1<<bit+1136, -1<<bit, -1<<bit+7, -1<<bit+224)
	}
	return l
}

// base is where the document has the slabs begin.
func base(c api.Config) int {
	n := 8 + 120 + 16*c.Slabs + 4*c.Slots
	for n%16 != 0 {
		n++
	}
	return n
}

// isNowhere holds a place that must not be against 0.
func isNowhere(t *testing.T, of string, c api.Config, i int, at int) {
	t.Helper()
	if at != 0 {
		t.Errorf("%s(%v, %d): %d", of, c, i, at)
	}
}

// isPlaced holds the places of n things, each of size bytes, the first one at first, against the document, and those of things that are not there against 0.
func isPlaced(t *testing.T, of string, at func(api.Config, int) int, c api.Config, first int, n int, size int) {
	t.Helper()
	for i := range n {
		if x := at(c, i); x != first+i*size {
			t.Errorf("%s(%v, %d): %d, not %d", of, c, i, x, first+i*size)
		}
	}
	for _, i := range append(extremes(), -1, -2, -n, n, n+1, n+2, 2*n, 8193, 9000) {
		isNowhere(t, of, c, i, at(c, i))
	}
}

// P9.1: the numbers of slabs and of slots, around all that may be.
func TestRight(t *testing.T) {
	found := 0
	for slabs := -2; slabs <= 80; slabs++ {
		for slots := -10; slots <= 8300; slots++ {
			c := api.Config{Slabs: slabs, Slots: slots}
			if layout.Right(c) != valid(c) {
				t.Errorf("Right(%v): %v", c, layout.Right(c))
			}
			if valid(c) {
				found++
			}
		}
	}
	if found != len(all()) || found == 0 {
		t.Error("configs", found, len(all()))
	}
}

// P9.1: the edges that the document names, and configs that are wrong in one way or in several.
func TestRightAtEdges(t *testing.T) {
	for _, c := range []api.Config{{Slabs: 7, Slots: 224}, {Slabs: 7, Slots: 226}, {Slabs: 7, Slots: 8192}, {Slabs: 64, Slots: 2048}, {Slabs: 64, Slots: 8192}} {
		if !layout.Right(c) {
			t.Error("not right", c)
		}
	}
	for _, c := range wrong() {
		if layout.Right(c) {
			t.Error("right", c)
		}
	}
}

// P9.1: 32 blocks a slab.
func TestMost(t *testing.T) {
	for _, c := range all() {
		if n := layout.Most(c); n != 32*c.Slabs {
			t.Fatalf("Most(%v): %d", c, n)
		}
	}
}

// P9.1: there is nothing of a config that is not valid.
func TestWrong(t *testing.T) {
	asked := append(extremes(), 0, 1, 2, 6, 7, 63, 128, 144, 224, 225, 1136, 1152, 1500, 8303, -1)
	for _, c := range wrong() {
		if layout.Size(c) != 0 || layout.Base(c) != 0 || layout.Most(c) != 0 || len(layout.Runs(c)) != 0 {
			t.Error("not right", c, layout.Size(c), layout.Base(c), layout.Most(c), layout.Runs(c))
		}
		for _, i := range asked {
			isNowhere(t, "HeadAt", c, i, layout.HeadAt(c, i))
			isNowhere(t, "SlotAt", c, i, layout.SlotAt(c, i))
			isNowhere(t, "SlabAt", c, i, layout.SlabAt(c, i))
			if n, ok := layout.Slab(c, i); n != 0 || ok {
				t.Errorf("Slab(%v, %d): %d, %v", c, i, n, ok)
			}
		}
	}
}

// P9.2: the slabs begin behind the other parts, at a multiple of 16, and end the arena.
func TestSizeAndBase(t *testing.T) {
	for _, c := range all() {
		if layout.Base(c) != base(c) || layout.Size(c) != base(c)+1024*c.Slabs {
			t.Fatal("parts", c, layout.Base(c), layout.Size(c))
		}
	}
	for c, want := range map[api.Config][2]int{
		{Slabs: 7, Slots: 224}:   {1136, 8304},
		{Slabs: 7, Slots: 226}:   {1152, 8320},
		{Slabs: 7, Slots: 228}:   {1152, 8320},
		{Slabs: 7, Slots: 230}:   {1168, 8336},
		{Slabs: 64, Slots: 8192}: {33920, 99456},
	} {
		if layout.Base(c) != want[0] || layout.Size(c) != want[1] {
			t.Error("parts", c, layout.Base(c), layout.Size(c))
		}
	}
}

// P9.2: heads, slots and slabs, and none beyond the last one or ahead of the first.
func TestPlaces(t *testing.T) {
	for _, c := range some() {
		isPlaced(t, "HeadAt", layout.HeadAt, c, 128, c.Slabs, 16)
		isPlaced(t, "SlotAt", layout.SlotAt, c, 128+16*c.Slabs, c.Slots, 4)
		isPlaced(t, "SlabAt", layout.SlabAt, c, base(c), c.Slabs, 1024)
	}
	c := api.Config{Slabs: 7, Slots: 226}
	if layout.HeadAt(c, 1) != 144 || layout.SlotAt(c, 225) != 1140 || layout.SlabAt(c, 6) != 7296 || layout.SlabAt(c, 7) != 0 {
		t.Error("the examples", layout.HeadAt(c, 1), layout.SlotAt(c, 225), layout.SlabAt(c, 6), layout.SlabAt(c, 7))
	}
	// The padding has room for two slots, and is none.
	if layout.SlotAt(c, 226) != 0 || layout.SlotAt(c, 227) != 0 {
		t.Error("in the padding", layout.SlotAt(c, 226), layout.SlotAt(c, 227))
	}
}

// P9.2: each byte of each slab, and each byte ahead of the slabs and some behind them.
func TestSlab(t *testing.T) {
	for _, c := range some() {
		first := base(c)
		for at := -2000; at < first+1024*c.Slabs+2000; at++ {
			want, yes := 0, at >= first && at < first+1024*c.Slabs
			if yes {
				want = (at - first) / 1024
			}
			if n, ok := layout.Slab(c, at); n != want || ok != yes {
				t.Fatalf("Slab(%v, %d): %d, %v; not %d, %v", c, at, n, ok, want, yes)
			}
		}
		for _, at := range extremes() {
			if n, ok := layout.Slab(c, at); n != 0 || ok {
				t.Errorf("Slab(%v, %d): %d, %v", c, at, n, ok)
			}
		}
	}
}

// P9.2: the edges of the document's slabs.
func TestSlabAtEdges(t *testing.T) {
	c := api.Config{Slabs: 7, Slots: 226}
	for at, want := range map[int]int{1152: 0, 2175: 0, 2176: 1, 7295: 5, 7296: 6, 8319: 6} {
		if n, ok := layout.Slab(c, at); n != want || !ok {
			t.Errorf("Slab(%d): %d, %v; not %d", at, n, ok, want)
		}
	}
	for _, at := range []int{-1, 0, 8, 128, 1143, 1144, 1151, 8320, 8321, 9344} {
		if n, ok := layout.Slab(c, at); n != 0 || ok {
			t.Errorf("Slab(%d): %d, %v", at, n, ok)
		}
	}
}

// P9.3: the parts of the document's arenas, with padding and without.
func TestRuns(t *testing.T) {
	for c, want := range map[api.Config][]api.Run{
		{Slabs: 7, Slots: 226}:   {{At: 0, Len: 8, Kind: 1}, {At: 8, Len: 120, Kind: 2}, {At: 128, Len: 112, Kind: 3}, {At: 240, Len: 904, Kind: 4}, {At: 1144, Len: 8, Kind: 8}, {At: 1152, Len: 7168, Kind: 7}},
		{Slabs: 7, Slots: 224}:   {{At: 0, Len: 8, Kind: 1}, {At: 8, Len: 120, Kind: 2}, {At: 128, Len: 112, Kind: 3}, {At: 240, Len: 896, Kind: 4}, {At: 1136, Len: 7168, Kind: 7}},
		{Slabs: 64, Slots: 8190}: {{At: 0, Len: 8, Kind: 1}, {At: 8, Len: 120, Kind: 2}, {At: 128, Len: 1024, Kind: 3}, {At: 1152, Len: 32760, Kind: 4}, {At: 33912, Len: 8, Kind: 8}, {At: 33920, Len: 65536, Kind: 7}},
	} {
		if l := layout.Runs(c); !slices.Equal(l, want) {
			t.Errorf("Runs(%v): %v; not %v", c, l, want)
		}
	}
}

// P9.3: each part that has bytes, in the document's order, for all configs.
func TestRunsOfAll(t *testing.T) {
	padded := 0
	for _, c := range all() {
		slots := 128 + 16*c.Slabs
		end := slots + 4*c.Slots
		want := []api.Run{{At: 0, Len: 8, Kind: api.RegWord}, {At: 8, Len: 120, Kind: api.RegRoot}, {At: 128, Len: 16 * c.Slabs, Kind: api.RegHead}, {At: slots, Len: 4 * c.Slots, Kind: api.RegSlot}}
		if base(c) > end {
			padded++
			want = append(want, api.Run{At: end, Len: base(c) - end, Kind: api.RegPad})
		}
		want = append(want, api.Run{At: base(c), Len: 1024 * c.Slabs, Kind: api.RegSlab})
		if l := layout.Runs(c); !slices.Equal(l, want) {
			t.Fatalf("Runs(%v): %v; not %v", c, l, want)
		}
	}
	if padded == 0 || padded == len(all()) {
		t.Error("configs with padding", padded)
	}
}

// P9.3: an answer's runs belong to the caller.
func TestRunsAreNew(t *testing.T) {
	c := api.Config{Slabs: 7, Slots: 226}
	l, kept := layout.Runs(c), slices.Clone(layout.Runs(c))
	clear(l)
	_ = append(l[:0], api.Run{At: 1, Len: 1, Kind: 1})
	if again := layout.Runs(c); !slices.Equal(again, kept) || len(again) != 6 {
		t.Error("changed", again)
	}
}

// P9.4: the runs follow one another from 0 on and cover the arena; none is empty.
func TestCovered(t *testing.T) {
	for _, c := range all() {
		next := 0
		for _, r := range layout.Runs(c) {
			if r.At != next || r.Len < 1 {
				t.Fatal("a run", c, r, next)
			}
			next = r.At + r.Len
		}
		if next != layout.Size(c) || next == 0 {
			t.Fatal("the end", c, next, layout.Size(c))
		}
	}
}

// P9.4: heads, slots and slabs fill the runs of their kinds, each apart from the others.
func TestApart(t *testing.T) {
	for _, c := range some() {
		kinds := make([]int, layout.Size(c))
		for _, r := range layout.Runs(c) {
			for at := r.At; at < r.At+r.Len; at++ {
				kinds[at] = r.Kind
			}
		}
		take := func(at int, n int, kind int) {
			for i := at; i < at+n; i++ {
				if kinds[i] != kind {
					t.Fatal("a byte of another kind, or taken already", c, at, i, kinds[i], kind)
				}
				kinds[i] = api.RegNone
			}
		}
		for i := range c.Slabs {
			take(layout.HeadAt(c, i), 16, api.RegHead)
			take(layout.SlabAt(c, i), 1024, api.RegSlab)
		}
		for i := range c.Slots {
			take(layout.SlotAt(c, i), 4, api.RegSlot)
		}
		for _, kind := range []int{api.RegHead, api.RegSlot, api.RegSlab} {
			if at := slices.Index(kinds, kind); at >= 0 {
				t.Fatal("left over", c, at, kind)
			}
		}
	}
}

// P9.4: the offsets of heads and slabs, and the size, are multiples of 16; an arena is no greater than the greatest.
func TestAligned(t *testing.T) {
	for _, c := range all() {
		if layout.Base(c)%16 != 0 || layout.Size(c)%16 != 0 || layout.Size(c) > api.MaxArena {
			t.Fatal("parts", c, layout.Base(c), layout.Size(c))
		}
	}
	for _, c := range some() {
		for i := range c.Slabs {
			at := layout.SlabAt(c, i)
			if layout.HeadAt(c, i)%16 != 0 || at%16 != 0 {
				t.Fatal("places", c, i, layout.HeadAt(c, i), at)
			}
			if n, ok := layout.Slab(c, at); n != i || !ok {
				t.Fatal("a slab's first byte", c, i, n, ok)
			}
		}
		for i := range c.Slots {
			if layout.SlotAt(c, i)%4 != 0 {
				t.Fatal("a slot", c, i, layout.SlotAt(c, i))
			}
		}
	}
}
