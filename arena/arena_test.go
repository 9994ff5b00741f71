package arena_test

import (
	"bytes"
	"math"
	"reflect"
	"slices"
	"testing"

	"columbarium/api"
	"columbarium/arena"
)

// most is the greatest size of an arena.
const most = 1048576

// extremes are ints far beyond an arena's bytes; some are offsets and sizes that may be once their high bits are lost.
func extremes() []int {
	l := []int{math.MinInt, math.MinInt + 1, math.MinInt + 16, math.MaxInt, math.MaxInt - 1, math.MaxInt - 7, math.MaxInt - 15, math.MaxInt - 31}
	for bit := 21; bit < 63; bit++ {
		l = append(l, 1<<bit-16, 1<<bit-1, 1<<bit, 1<<bit+1, 1<<bit+16, 1<<bit+32, -1<<bit, -1<<bit+1, -1<<bit+16, -1<<bit+32)
	}
	return l
}

// around are the numbers from -9 to n + 9, and the extremes.
func around(n int) []int {
	l := extremes()
	for i := -9; i <= n+9; i++ {
		l = append(l, i)
	}
	return l
}

// counted answers n bytes that all differ from each other and from 0, for n below 256.
func counted(n int) []byte {
	b := make([]byte, n)
	for i := range b {
		b[i] = byte(i + 1)
	}
	return b
}

// numbers answers a function that answers numbers below n, the same ones at each start.
func numbers(seed uint32) func(n int) int {
	return func(n int) int {
		seed = seed*1664525 + 1013904223
		return int(seed>>8) % n
	}
}

// made answers an arena of n counted bytes.
func made(t *testing.T, n int) *arena.Arena {
	t.Helper()
	a := arena.Of(counted(n))
	if a == nil {
		t.Fatal("no arena of", n)
	}
	return a
}

// inside tells whether n bytes from an offset on lie in an arena, each of them held against its ends.
func inside(size int, at int, n int) bool {
	if at < 0 || at > size || n < 0 || n > size {
		return false
	}
	for i := range n {
		if at+i >= size {
			return false
		}
	}
	return true
}

// ranged is the error of n bytes from an offset on.
func ranged(size int, at int, n int) api.Errno {
	if inside(size, at, n) {
		return api.OK
	}
	return api.ErrRange
}

// placed is the error of a width and an offset, in the document's order.
func placed(size int, at int, width int) api.Errno {
	switch {
	case width != 1 && width != 2 && width != 4 && width != 8:
		return api.ErrArg
	case !inside(size, at, width):
		return api.ErrRange
	case at%width != 0:
		return api.ErrAlign
	}
	return api.OK
}

// greatest is the greatest number of a width, written out.
func greatest(width int) uint64 {
	switch width {
	case 1:
		return 0xff
	case 2:
		return 0xffff
	case 4:
		return 0xffffffff
	}
	return 0xffffffffffffffff
}

// holds holds all bytes of an arena against those that it must have.
func holds(t *testing.T, a *arena.Arena, want []byte, after ...any) {
	t.Helper()
	if b := a.Image(); !bytes.Equal(b, want) {
		t.Fatalf("after %v: %v; not %v", after, b, want)
	}
}

// P10.1: the sizes of arenas: all numbers near both ends, and some of those between.
func TestNew(t *testing.T) {
	sizes := map[int]bool{}
	for n := 16; n <= most; n += 16 {
		sizes[n] = true
	}
	asked := append(extremes(), 2*most)
	for n := -100; n <= 4000; n++ {
		asked = append(asked, n, most-2000+n, 257*n)
	}
	for _, n := range asked {
		a := arena.New(n)
		if (a != nil) != sizes[n] {
			t.Fatal("New", n, a != nil)
		}
		if a != nil && a.Len() != n {
			t.Fatal("Len", n, a.Len())
		}
	}
}

// P10.1: a new arena has zero bytes, and as many as were asked for.
func TestNewIsZero(t *testing.T) {
	for _, n := range []int{16, 32, 48, 64, 1024, 8304, 99456, most - 16, most} {
		a := arena.New(n)
		if a == nil {
			t.Fatal("New", n)
		}
		if b := a.Image(); len(b) != n || !bytes.Equal(b, make([]byte, n)) {
			t.Error("bytes", n, len(b))
		}
	}
}

// P10.1: an arena of bytes, of those lengths alone that New accepts; capacities do not matter.
func TestOf(t *testing.T) {
	whole := make([]byte, most+64)
	for i := range whole {
		whole[i] = byte(i%251 + 1)
	}
	for n := range 600 {
		want := n >= 16 && n%16 == 0
		for _, b := range [][]byte{whole[:n], whole[:n:n]} {
			a := arena.Of(b)
			if (a != nil) != want {
				t.Fatal("Of", n, a != nil)
			}
			if want && (a.Len() != n || !bytes.Equal(a.Image(), b)) {
				t.Fatal("bytes", n, a.Len())
			}
		}
	}
	for n, want := range map[int]bool{most - 16: true, most - 1: false, most: true, most + 1: false, most + 16: false, most + 32: false} {
		a := arena.Of(whole[:n])
		if (a != nil) != want || want && (a.Len() != n || !bytes.Equal(a.Image(), whole[:n])) {
			t.Error("Of", n, a != nil)
		}
	}
	if arena.Of(nil) != nil || arena.Of([]byte{}) != nil || arena.Of(make([]byte, 0, 32)) != nil {
		t.Error("of nothing")
	}
	if arena.Of(make([]byte, 32)).Len() != 32 {
		t.Error("of 32 bytes")
	}
}

// P10.1: an arena's bytes are its own: neither those that it was made of nor those of an image.
func TestOfAndImageCopy(t *testing.T) {
	b := counted(40)[:32]
	a := arena.Of(b)
	clear(b)
	_ = append(b, 1)
	holds(t, a, counted(32), "clearing what it was made of")
	if a.Put(0, 8, 0) != api.OK || a.Zero(8, 24) != api.OK || a.Write(0, []byte("xyz")) != api.OK {
		t.Error("changing")
	}
	if !bytes.Equal(b[:40], append(make([]byte, 32), 1, 34, 35, 36, 37, 38, 39, 40)) {
		t.Error("what it was made of has changed", b[:40])
	}

	a = made(t, 32)
	first, second := a.Image(), a.Image()
	clear(first)
	_ = append(first, 1)
	holds(t, a, counted(32), "clearing an image")
	if a.Zero(0, 32) != api.OK || !bytes.Equal(second, counted(32)) {
		t.Error("an image has changed", second)
	}
}

// P10.1: two arenas have no byte together, though made of the same ones.
func TestArenasAreIndependent(t *testing.T) {
	b := counted(64)
	all := []*arena.Arena{arena.Of(b), arena.Of(b), arena.Of(b[:32]), arena.New(64), arena.New(64)}
	want := [][]byte{counted(64), counted(64), counted(32), make([]byte, 64), make([]byte, 64)}
	for i, a := range all {
		if a.Write(i, []byte{200, 201}) != api.OK || a.Put(16, 4, uint64(i)) != api.OK {
			t.Fatal("writing", i)
		}
		want[i][i], want[i][i+1] = 200, 201
		copy(want[i][16:], []byte{byte(i), 0, 0, 0})
		for j, other := range all {
			holds(t, other, want[j], "writing into arena", i, "in arena", j)
		}
	}
}

// P10.2: the examples.
func TestExamplesOfPutAndGet(t *testing.T) {
	a := arena.New(64)
	if a.Put(8, 8, 1<<63+5) != api.OK || a.Put(6, 2, 65536) != api.ErrArg || a.Put(7, 2, 1) != api.ErrAlign || a.Put(64, 1, 1) != api.ErrRange {
		t.Error("Put")
	}
	if v, e := a.Get(15, 1); v != 128 || e != api.OK {
		t.Error("the last byte", v, e)
	}
	if v, e := a.Get(8, 1); v != 5 || e != api.OK {
		t.Error("the first byte", v, e)
	}
	a = arena.New(16)
	if e := a.Put(4, 4, 258); e != api.OK {
		t.Error("Put of 258", e)
	}
	holds(t, a, []byte{0, 0, 0, 0, 2, 1, 0, 0, 0, 0, 0, 0, 0, 0, 0, 0}, "Put of 258")
	if v, e := a.Get(4, 2); v != 258 || e != api.OK {
		t.Error("Get of 258", v, e)
	}
}

// P10.2: integers at every offset and of every width, the least significant byte first, and all errors.
func TestGet(t *testing.T) {
	for _, size := range []int{16, 32, 48} {
		a, b := made(t, size), counted(size)
		for _, at := range around(size) {
			for _, width := range around(17) {
				want, e := uint64(0), placed(size, at, width)
				for i := 0; e == api.OK && i < width; i++ {
					want |= uint64(b[at+i]) << (8 * i)
				}
				if v, got := a.Get(at, width); v != want || got != e {
					t.Fatalf("Get(%d, %d) of %d bytes = %#x, %d; want %#x, %d", at, width, size, v, got, want, e)
				}
			}
		}
		holds(t, a, b, "Get")
	}
}

// P10.2, P10.5: Put at every offset and of every width: its errors, and the bytes that are others after it.
func TestPut(t *testing.T) {
	for _, size := range []int{16, 32, 48} {
		for _, at := range around(size) {
			for _, width := range around(17) {
				for _, v := range []uint64{0, 1, 0xfe, 0x8001, 0x89abcdef, 0xfedcba9876543210, math.MaxUint64} {
					a, want := made(t, size), counted(size)
					e := placed(size, at, width)
					if e != api.ErrArg && v > greatest(width) {
						e = api.ErrArg
					}
					for i := 0; e == api.OK && i < width; i++ {
						want[at+i] = byte(v >> (8 * i))
					}
					if got := a.Put(at, width, v); got != e {
						t.Fatalf("Put(%d, %d, %#x) of %d bytes = %d; want %d", at, width, v, size, got, e)
					}
					holds(t, a, want, "Put", at, width, v)
				}
			}
		}
	}
}

// P10.2: the greatest number that fits a width, and the first one that does not, which is named ahead of an offset that may not be.
func TestPutTakesWhatFits(t *testing.T) {
	for _, width := range []int{1, 2, 4, 8} {
		a := arena.New(32)
		if e := a.Put(16, width, greatest(width)); e != api.OK {
			t.Error("the greatest", width, e)
		}
		holds(t, a, append(append(make([]byte, 16), bytes.Repeat([]byte{255}, width)...), make([]byte, 16-width)...), "the greatest of", width)
		if width == 8 {
			continue
		}
		for _, at := range around(32) {
			for _, v := range []uint64{greatest(width) + 1, 1 << 63, math.MaxUint64} {
				if e := arena.New(32).Put(at, width, v); e != api.ErrArg {
					t.Errorf("Put(%d, %d, %#x) = %d; want ErrArg", at, width, v, e)
				}
			}
		}
	}
}

// P10.3: n bytes from every offset on, as copies and as they are, and the bytes that are not there.
func TestReadAndView(t *testing.T) {
	for _, size := range []int{16, 32, 48} {
		a, b := made(t, size), counted(size)
		for _, at := range around(size) {
			for _, n := range around(size) {
				want, e := []byte(nil), ranged(size, at, n)
				if e == api.OK {
					want = b[at : at+n]
				}
				if r, got := a.Read(at, n); !bytes.Equal(r, want) || got != e {
					t.Fatalf("Read(%d, %d) of %d bytes = %v, %d; want %v, %d", at, n, size, r, got, want, e)
				}
				v, got := a.View(at, n)
				if !bytes.Equal(v, want) || got != e || cap(v) != len(want) {
					t.Fatalf("View(%d, %d) of %d bytes = %v, %d, capacity %d; want %v, %d", at, n, size, v, got, cap(v), want, e)
				}
			}
		}
		holds(t, a, b, "Read and View")
	}
	if _, e := arena.New(16).Read(16, 0); e != api.OK {
		t.Error("no bytes at the end", e)
	}
	if _, e := arena.New(16).Read(17, 0); e != api.ErrRange {
		t.Error("no bytes beyond the end", e)
	}
}

// P10.3: what Read answers belongs to the caller.
func TestReadCopies(t *testing.T) {
	for n := 0; n <= 32; n++ {
		a := made(t, 32)
		first, _ := a.Read(0, n)
		second, _ := a.Read(0, n)
		clear(first)
		_ = append(first, 99)
		holds(t, a, counted(32), "clearing what Read answered")
		if a.Zero(0, 32) != api.OK || !bytes.Equal(second, counted(n)) {
			t.Error("what Read answered has changed", second)
		}
	}
}

// P10.3: a view's bytes are those of the arena, both ways, and nothing can be appended to them in place.
func TestViewShares(t *testing.T) {
	a := arena.New(16)
	if a.Put(4, 4, 258) != api.OK {
		t.Error("Put")
	}
	if v, e := a.View(4, 1); !bytes.Equal(v, []byte{2}) || e != api.OK {
		t.Error("the example", v, e)
	}
	for at := 0; at <= 32; at++ {
		for n := 0; at+n <= 32; n++ {
			a, want := made(t, 32), counted(32)
			v, e := a.View(at, n)
			if e != api.OK {
				t.Fatal("View", at, n, e)
			}
			for i := range v {
				v[i] += 100
				want[at+i] += 100
			}
			holds(t, a, want, "writing into a view", at, n)
			_ = append(v, 99, 98)
			holds(t, a, want, "appending to a view", at, n)
			if a.Zero(0, 32) != api.OK || !bytes.Equal(v, make([]byte, n)) {
				t.Error("a view has not changed", at, n, v)
			}
		}
	}
}

// P10.3, P10.5: Write of every length at every offset, and what does not fit, which changes nothing.
func TestWrite(t *testing.T) {
	source := bytes.Repeat([]byte{200, 201, 0, 203, 204}, 20)
	for _, size := range []int{16, 32, 48} {
		for _, at := range around(size) {
			for n := range size + 10 {
				a, want := made(t, size), counted(size)
				e := ranged(size, at, n)
				if e == api.OK {
					copy(want[at:], source[:n])
				}
				if got := a.Write(at, source[:n]); got != e {
					t.Fatalf("Write(%d, %d bytes) of %d bytes = %d; want %d", at, n, size, got, e)
				}
				holds(t, a, want, "Write", at, n)
			}
			if got, want := made(t, size).Write(at, nil), ranged(size, at, 0); got != want {
				t.Errorf("Write(%d, nil) of %d bytes = %d; want %d", at, size, got, want)
			}
		}
	}
	if !bytes.Equal(source, bytes.Repeat([]byte{200, 201, 0, 203, 204}, 20)) {
		t.Error("the argument has changed", source)
	}
}

// P10.3: what is written is not kept, and may be a view of the arena.
func TestWriteCopies(t *testing.T) {
	a, b := arena.New(16), []byte("abcdef")
	if a.Write(4, b) != api.OK {
		t.Error("Write")
	}
	clear(b)
	holds(t, a, []byte("\x00\x00\x00\x00abcdef\x00\x00\x00\x00\x00\x00"), "clearing what was written")
	for from := range 16 {
		for to := range 16 {
			for n := 0; max(from, to)+n <= 16; n++ {
				a, want := made(t, 16), counted(16)
				copy(want[to:], counted(16)[from:from+n])
				v, _ := a.View(from, n)
				if e := a.Write(to, v); e != api.OK {
					t.Fatal("Write of a view", from, to, n, e)
				}
				holds(t, a, want, "Write of a view", from, to, n)
			}
		}
	}
}

// P10.3, P10.5: Zero of every length at every offset, and beyond the ends.
func TestZero(t *testing.T) {
	for _, size := range []int{16, 32, 64} {
		for _, at := range around(size) {
			for _, n := range around(size) {
				a, want := made(t, size), counted(size)
				e := ranged(size, at, n)
				if e == api.OK {
					clear(want[at : at+n])
				}
				if got := a.Zero(at, n); got != e {
					t.Fatalf("Zero(%d, %d) of %d bytes = %d; want %d", at, n, size, got, e)
				}
				holds(t, a, want, "Zero", at, n)
			}
		}
	}
	if arena.New(64).Zero(0, 65) != api.ErrRange || arena.New(64).Zero(0, 64) != api.OK {
		t.Error("the example")
	}
}

// P10.3, P10.5: Move from every offset to every other one: ranges may overlap, and both must be in the arena.
func TestMove(t *testing.T) {
	const size = 32
	places := []int{math.MinInt, math.MaxInt, math.MaxInt - 8, 1 << 32, -1 << 32, 1<<32 + 8}
	for i := -2; i <= size+2; i++ {
		places = append(places, i)
	}
	for _, from := range places {
		for _, to := range places {
			for _, n := range places {
				a, want := made(t, size), counted(size)
				e := max(ranged(size, from, n), ranged(size, to, n))
				if e == api.OK {
					copy(want[to:], counted(size)[from:from+n])
				}
				if got := a.Move(from, to, n); got != e {
					t.Fatalf("Move(%d, %d, %d) = %d; want %d", from, to, n, got, e)
				}
				holds(t, a, want, "Move", from, to, n)
			}
		}
	}
	a := arena.New(64)
	if a.Write(20, []byte("abcdef")) != api.OK || a.Move(20, 22, 6) != api.OK {
		t.Error("Move of the example")
	}
	if b, e := a.Read(20, 8); string(b) != "ababcdef" || e != api.OK {
		t.Error("the example", string(b), e)
	}
	if a.Move(59, 0, 6) != api.ErrRange || a.Move(0, 59, 6) != api.ErrRange || a.Move(0, 58, 6) != api.OK {
		t.Error("one range beyond the end")
	}
}

// P10.3: whether bytes occur, held against each place where they could.
func TestHas(t *testing.T) {
	number := numbers(3)
	for range 300 {
		b := make([]byte, 16+16*number(3))
		for i := range b {
			b[i] = byte(number(2))
		}
		a := arena.Of(b)
		for range 100 {
			part := make([]byte, number(9))
			for i := range part {
				part[i] = byte(number(2))
			}
			want := false
			for at := 0; at+len(part) <= len(b); at++ {
				want = want || slices.Equal(b[at:at+len(part)], part)
			}
			if a.Has(part) != want {
				t.Fatalf("Has(%v) of %v: %v", part, b, a.Has(part))
			}
		}
		holds(t, a, b, "Has")
	}
}

// P10.3: no bytes, all bytes, more than all, and bytes that occur, but not one after the other.
func TestHasAtEdges(t *testing.T) {
	b := counted(32)
	a := arena.Of(b)
	if !a.Has(nil) || !a.Has([]byte{}) || !a.Has(b[:0]) || !arena.New(16).Has(nil) {
		t.Error("no bytes")
	}
	for at := 0; at <= 32; at++ {
		for n := 0; at+n <= 32; n++ {
			if !a.Has(b[at : at+n]) {
				t.Error("not there", at, n)
			}
		}
	}
	for _, part := range [][]byte{{0}, {33}, {32, 1}, {2, 1}, {1, 3}, {1, 1}, append(counted(32), 33), append([]byte{0}, b...), append(counted(32), b...)} {
		if a.Has(part) {
			t.Error("there", part)
		}
	}
	if arena.New(16).Has(make([]byte, 17)) || !arena.New(16).Has(make([]byte, 16)) {
		t.Error("zero bytes")
	}
	if a.Zero(31, 1) != api.OK || a.Has([]byte{32}) || !a.Has([]byte{31, 0}) {
		t.Error("after Zero")
	}
}

// P10.4: an arena that is nil, or that is a zero value, has nothing, whatever else is wrong, and stays what it is.
func TestNoArena(t *testing.T) {
	zero := &arena.Arena{}
	for _, a := range []*arena.Arena{nil, zero, new(arena.Arena)} {
		if a.Len() != 0 || len(a.Image()) != 0 {
			t.Error("bytes", a.Len(), a.Image())
		}
		if a.Has(nil) || a.Has([]byte{}) || a.Has([]byte{0}) || a.Has([]byte("a")) {
			t.Error("Has")
		}
		for _, at := range []int{0, 1, 8, 16, -1, math.MinInt, math.MaxInt} {
			for _, n := range []int{0, 1, 2, 3, 4, 8, 16, -1, math.MinInt, math.MaxInt} {
				refuses(t, a, at, n)
			}
			if e := a.Write(at, nil); e != api.ErrNil {
				t.Error("Write of nothing", at, e)
			}
			if e := a.Write(at, []byte("abc")); e != api.ErrNil {
				t.Error("Write", at, e)
			}
		}
		if a.Len() != 0 || len(a.Image()) != 0 {
			t.Error("bytes", a.Len(), a.Image())
		}
	}
	if !reflect.DeepEqual(zero, &arena.Arena{}) {
		t.Error("changed", zero)
	}
}

// refuses asks an arena that is none for what takes an offset and a number.
func refuses(t *testing.T, a *arena.Arena, at int, n int) {
	t.Helper()
	if v, e := a.Get(at, n); v != 0 || e != api.ErrNil {
		t.Error("Get", at, n, v, e)
	}
	for _, v := range []uint64{0, 1, 65536, math.MaxUint64} {
		if e := a.Put(at, n, v); e != api.ErrNil {
			t.Error("Put", at, n, v, e)
		}
	}
	if b, e := a.Read(at, n); len(b) != 0 || e != api.ErrNil {
		t.Error("Read", at, n, b, e)
	}
	if b, e := a.View(at, n); len(b) != 0 || e != api.ErrNil {
		t.Error("View", at, n, b, e)
	}
	if e := a.Zero(at, n); e != api.ErrNil {
		t.Error("Zero", at, n, e)
	}
	if e := a.Move(at, at, n); e != api.ErrNil {
		t.Error("Move", at, n, e)
	}
	if e := a.Move(at, 0, n); e != api.ErrNil {
		t.Error("Move", at, n, e)
	}
}

// P10.5: Get returns what Put has stored, at every offset, and in the greatest arena too.
func TestGetReturnsWhatPutHasStored(t *testing.T) {
	for _, size := range []int{16, 64, 99456, most} {
		for _, width := range []int{1, 2, 4, 8} {
			a := arena.New(size)
			step := width
			if size > 64 {
				step = 8 * width
			}
			stored := func(at int) uint64 { return (uint64(at) + 1) * 0x9e3779b97f4a7c15 & greatest(width) }
			for at := 0; at < size; at += step {
				if e := a.Put(at, width, stored(at)); e != api.OK {
					t.Fatal("Put", size, at, width, e)
				}
			}
			for at := 0; at < size; at += step {
				if v, e := a.Get(at, width); v != stored(at) || e != api.OK {
					t.Fatalf("Get(%d, %d) of %d bytes = %#x, %d; want %#x", at, width, size, v, e, stored(at))
				}
			}
		}
	}
}

// P10.5: long rows of calls change those bytes alone that they name, in order.
func TestRowsOfCalls(t *testing.T) {
	for seed := range uint32(40) {
		number := numbers(seed)
		size := 16 + 16*number(8)
		a, want := made(t, size), counted(size)
		for range 1000 {
			at, to, n, v := number(size+4)-2, number(size+4)-2, number(size/2)-1, uint64(number(1<<20))
			call := number(5)
			e, got := api.OK, api.OK
			switch call {
			case 0:
				width := 1 << number(4)
				got, e = a.Put(at, width, v), placed(size, at, width)
				if v > greatest(width) {
					e = api.ErrArg
				}
				for i := 0; e == api.OK && i < width; i++ {
					want[at+i] = byte(v >> (8 * i))
				}
			case 1:
				b := bytes.Repeat([]byte{byte(v)}, n+1)
				got, e = a.Write(at, b), ranged(size, at, n+1)
				if e == api.OK {
					copy(want[at:], b)
				}
			case 2:
				n /= 4
				got, e = a.Zero(at, n), ranged(size, at, n)
				if e == api.OK {
					clear(want[at : at+n])
				}
			case 3:
				got, e = a.Move(at, to, n), max(ranged(size, at, n), ranged(size, to, n))
				if e == api.OK {
					copy(want[to:], slices.Clone(want[at:at+n]))
				}
			case 4:
				part, wrong := a.View(at, n)
				got, e = wrong, ranged(size, at, n)
				for i := range part {
					part[i] ^= byte(v)
					want[at+i] ^= byte(v)
				}
			}
			if got != e {
				t.Fatal("error", seed, call, at, to, n, v, got, e)
			}
			holds(t, a, want, "call", call, at, to, n, v)
		}
	}
}
