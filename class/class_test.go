package class_test

import (
	"math"
	"testing"

	"columbarium/api"
	"columbarium/class"
)

// slab is how many bytes a slab has.
const slab = 1024

// row is what the document says of a class.
type row struct {
	class, size, blocks, pad int
}

// rows are the classes of the document.
var rows = []row{
	{1, 32, 32, 0},
	{2, 48, 21, 16},
	{3, 64, 16, 0},
	{4, 96, 10, 64},
	{5, 128, 8, 0},
	{6, 192, 5, 64},
	{7, 256, 4, 0},
	{8, 384, 2, 256},
	{9, 512, 2, 0},
}

// strangers are numbers that are not classes.
func strangers() []int {
	l := []int{0, -1, -2, -9, 10, 11, 12, 32, 48, 255, 256, 257, 512, 1 << 32, 1<<32 + 1, math.MinInt, math.MinInt + 1, math.MaxInt - 1, math.MaxInt, math.MinInt32, math.MaxInt32}
	for n := 13; n < 300; n++ {
		l = append(l, n, -n)
	}
	return l
}

// extremes are ints far beyond what a slab has.
func extremes() []int {
	l := []int{math.MinInt, math.MinInt + 1, math.MinInt + 16, math.MinInt + 32, math.MaxInt, math.MaxInt - 1, math.MaxInt - 16, math.MaxInt - 31, math.MaxInt - 32, math.MinInt32, math.MaxInt32}
	for bit := 11; bit < 63; bit++ {
		l = append(l, 1<<bit-1, 1<<bit, 1<<bit+1, 1<<bit+32, 1<<bit+48, -1<<bit-1, -1<<bit, -1<<bit+1, -1<<bit+32)
	}
	return l
}

// least answers the least class of the rows with so many bytes, and false if none has.
func least(size int) (int, bool) {
	best, found := 0, false
	for _, r := range rows {
		if r.size >= size && (!found || r.size < rows[best-1].size) {
			best, found = r.class, true
		}
	}
	return best, found
}

// isOf holds Of against the rows.
func isOf(t *testing.T, size int) {
	t.Helper()
	want, found := least(size)
	e := api.OK
	if size < 1 {
		want, e = 0, api.ErrArg
	} else if !found {
		e = api.ErrTooBig
	}
	if c, x := class.Of(size); c != want || x != e {
		t.Errorf("Of(%d): %d, %d; not %d, %d", size, c, x, want, e)
	}
}

// P8.1: the classes are 1 to 9, with blocks of the document's sizes.
func TestSize(t *testing.T) {
	if len(rows) != 9 {
		t.Fatal("rows", len(rows))
	}
	for i, r := range rows {
		if r.class != i+1 {
			t.Error("row", i, r.class)
		}
		if n := class.Size(r.class); n != r.size {
			t.Errorf("Size(%d): %d, not %d", r.class, n, r.size)
		}
	}
	if class.Size(2) != 48 {
		t.Error("the example", class.Size(2))
	}
}

// P8.1: what is not a class has no size.
func TestSizeOfNoClass(t *testing.T) {
	for _, c := range strangers() {
		if n := class.Size(c); n != 0 {
			t.Errorf("Size(%d): %d", c, n)
		}
	}
}

// P8.1: the least class that has room, for every size that fits.
func TestOf(t *testing.T) {
	for size := 1; size <= 512; size++ {
		isOf(t, size)
	}
	for size, want := range map[int]int{1: 1, 31: 1, 32: 1, 33: 2, 48: 2, 49: 3, 64: 3, 65: 4, 96: 4, 97: 5, 128: 5, 129: 6, 192: 6, 193: 7, 256: 7, 257: 8, 384: 8, 385: 9, 511: 9, 512: 9} {
		if c, e := class.Of(size); c != want || e != api.OK {
			t.Errorf("Of(%d): %d, %d; not %d", size, c, e, want)
		}
	}
}

// P8.1: sizes less than 1 are ErrArg, those above the greatest class's ErrTooBig.
func TestOfNothingAndTooMuch(t *testing.T) {
	for size := 513; size <= 3000; size++ {
		isOf(t, size)
		isOf(t, 513-size)
	}
	for _, size := range extremes() {
		isOf(t, size)
	}
	for size, want := range map[int]api.Errno{0: 2, -1: 2, math.MinInt: 2, 513: 22, 1024: 22, math.MaxInt: 22} {
		if c, e := class.Of(size); c != 0 || e != want {
			t.Errorf("Of(%d): %d, %d; not 0, %d", size, c, e, want)
		}
	}
}

// P8.2: how many blocks of a class fit into a slab, and what is left.
func TestBlocksAndPad(t *testing.T) {
	for _, r := range rows {
		if n := class.Blocks(r.class); n != r.blocks {
			t.Errorf("Blocks(%d): %d, not %d", r.class, n, r.blocks)
		}
		if n := class.Pad(r.class); n != r.pad {
			t.Errorf("Pad(%d): %d, not %d", r.class, n, r.pad)
		}
		if r.blocks*r.size > slab || (r.blocks+1)*r.size <= slab {
			t.Error("row", r)
		}
	}
}

// P8.2: what is not a class has neither blocks nor padding, nor a place in a slab.
func TestNoClass(t *testing.T) {
	for _, c := range strangers() {
		if n := class.Blocks(c); n != 0 {
			t.Errorf("Blocks(%d): %d", c, n)
		}
		if n := class.Pad(c); n != 0 {
			t.Errorf("Pad(%d): %d", c, n)
		}
		for _, i := range []int{0, 1, 2, -1, 32, 48, 1024, math.MinInt, math.MaxInt} {
			if at, e := class.Place(c, i); at != 0 || e != api.ErrArg {
				t.Errorf("Place(%d, %d): %d, %d", c, i, at, e)
			}
			if n, ok := class.Index(c, i); n != 0 || ok {
				t.Errorf("Index(%d, %d): %d, %v", c, i, n, ok)
			}
		}
	}
}

// P8.2: block i begins behind i blocks of its size.
func TestPlace(t *testing.T) {
	for _, r := range rows {
		for i := range r.blocks {
			if at, e := class.Place(r.class, i); at != i*r.size || e != api.OK {
				t.Errorf("Place(%d, %d): %d, %d; not %d", r.class, i, at, e, i*r.size)
			}
		}
	}
	if at, e := class.Place(2, 20); at != 960 || e != api.OK {
		t.Error("the example", at, e)
	}
}

// P8.2: a number that no block has is ErrRange.
func TestPlaceBeyond(t *testing.T) {
	for _, r := range rows {
		beyond := append(extremes(), -1, -2, -r.blocks, r.blocks, r.blocks+1)
		for n := r.blocks; n < 1100; n++ {
			beyond = append(beyond, n, r.blocks-n-1)
		}
		for _, i := range beyond {
			if at, e := class.Place(r.class, i); at != 0 || e != api.ErrRange {
				t.Errorf("Place(%d, %d): %d, %d", r.class, i, at, e)
			}
		}
	}
}

// P8.2: of all offsets of a slab, those where a block begins have its number; the others, padding's too, have none.
func TestIndex(t *testing.T) {
	for _, r := range rows {
		begins := map[int]int{}
		for i := range r.blocks {
			begins[i*r.size] = i
		}
		for at := -slab; at <= 3*slab; at++ {
			want, yes := begins[at]
			if i, ok := class.Index(r.class, at); i != want || ok != yes {
				t.Errorf("Index(%d, %d): %d, %v; not %d, %v", r.class, at, i, ok, want, yes)
			}
		}
		for _, at := range extremes() {
			want, yes := begins[at]
			if i, ok := class.Index(r.class, at); i != want || ok != yes {
				t.Errorf("Index(%d, %d): %d, %v; not %d, %v", r.class, at, i, ok, want, yes)
			}
		}
	}
	if i, ok := class.Index(2, 960); i != 20 || !ok {
		t.Error("the last block of class 2", i, ok)
	}
	if i, ok := class.Index(2, 1008); i != 0 || ok {
		t.Error("the padding of class 2", i, ok)
	}
	if i, ok := class.Index(8, 768); i != 0 || ok {
		t.Error("the padding of class 8", i, ok)
	}
}

// P8.3: an entry's block has 32 bytes more than its records.
func TestEntry(t *testing.T) {
	for packed := 0; packed <= 480; packed++ {
		want, _ := least(packed + 32)
		if c, e := class.Entry(packed); c != want || e != api.OK {
			t.Errorf("Entry(%d): %d, %d; not %d", packed, c, e, want)
		}
	}
	for packed, want := range map[int]int{0: 1, 1: 2, 16: 2, 17: 3, 32: 3, 33: 4, 352: 8, 353: 9, 480: 9} {
		if c, e := class.Entry(packed); c != want || e != api.OK {
			t.Errorf("Entry(%d): %d, %d; not %d", packed, c, e, want)
		}
	}
}

// P8.3: less than no bytes are ErrArg, more than 480 ErrTooBig.
func TestEntryBeyond(t *testing.T) {
	beyond := extremes()
	for n := 481; n < 1200; n++ {
		beyond = append(beyond, n, 480-n)
	}
	for _, packed := range beyond {
		want := api.ErrTooBig
		if packed < 0 {
			want = api.ErrArg
		}
		if c, e := class.Entry(packed); c != 0 || e != want {
			t.Errorf("Entry(%d): %d, %d; not 0, %d", packed, c, e, want)
		}
	}
}

// P8.3: a node's block has 16 bytes more than its label.
func TestNode(t *testing.T) {
	for label := 1; label <= 63; label++ {
		want, _ := least(label + 16)
		if c, e := class.Node(label); c != want || e != api.OK {
			t.Errorf("Node(%d): %d, %d; not %d", label, c, e, want)
		}
	}
	for label, want := range map[int]int{1: 1, 16: 1, 17: 2, 32: 2, 33: 3, 48: 3, 49: 4, 63: 4} {
		if c, e := class.Node(label); c != want || e != api.OK {
			t.Errorf("Node(%d): %d, %d; not %d", label, c, e, want)
		}
	}
}

// P8.3: a length that no label has is ErrName.
func TestNodeBeyond(t *testing.T) {
	beyond := append(extremes(), 0)
	for n := 64; n < 1200; n++ {
		beyond = append(beyond, n, 63-n)
	}
	for _, label := range beyond {
		if c, e := class.Node(label); c != 0 || e != api.ErrName {
			t.Errorf("Node(%d): %d, %d", label, c, e)
		}
	}
}

// P8.4: the blocks of a class and the padding follow one another and fill the slab.
func TestFilled(t *testing.T) {
	for _, r := range rows {
		next := 0
		for i := range class.Blocks(r.class) {
			at, e := class.Place(r.class, i)
			if at != next || e != api.OK {
				t.Errorf("Place(%d, %d): %d, %d; not %d", r.class, i, at, e, next)
			}
			if n, ok := class.Index(r.class, at); n != i || !ok {
				t.Errorf("Index(%d, %d): %d, %v; not %d", r.class, at, n, ok, i)
			}
			next = at + class.Size(r.class)
		}
		if next+class.Pad(r.class) != slab {
			t.Errorf("class %d: blocks up to %d, padding of %d", r.class, next, class.Pad(r.class))
		}
	}
}

// P8.4: no further block has room in the padding.
func TestPadIsSmall(t *testing.T) {
	for _, r := range rows {
		if n := class.Pad(r.class); n < 0 || n >= class.Size(r.class) {
			t.Errorf("Pad(%d): %d, of blocks of %d", r.class, n, class.Size(r.class))
		}
	}
}
