package num_test

import (
	"bytes"
	"math"
	"strconv"
	"testing"

	"columbarium/api"
	"columbarium/num"
)

var widths = []int{1, 2, 4, 8}

// noWidths are neither 1, 2, 4 nor 8; some of them are after their low bits are cut off.
var noWidths = []int{
	0, 3, 5, 6, 7, 9, 10, 12, 16, 32, 64, 128, 256, 257, 258, 260, 264, 1 << 16, math.MaxInt32, math.MaxInt,
	-1, -2, -4, -8, -16, math.MinInt32, math.MinInt,
}

// greatest is the greatest integer of a width, written out.
func greatest(width int) uint64 {
	switch width {
	case 1:
		return 0xff
	case 2:
		return 0xffff
	case 4:
		return 0xffffffff
	}
	return 0xffffffffffffffff
}

// counted answers n bytes that all differ from each other and from 0, for n below 256.
func counted(n int) []byte {
	b := make([]byte, n)
	for i := range b {
		b[i] = byte(i + 1)
	}
	return b
}

// placeError answers the first error of a width and an offset, word by word as P1.1 has them.
func placeError(n int, at int, width int) api.Errno {
	if width != 1 && width != 2 && width != 4 && width != 8 {
		return api.ErrArg
	}
	if at < 0 {
		return api.ErrRange
	}
	behind := 0
	for i := range n {
		if i >= at {
			behind++
		}
	}
	if behind < width {
		return api.ErrRange
	}
	for at >= width {
		at -= width
	}
	if at != 0 {
		return api.ErrAlign
	}
	return api.OK
}

// P1.1: the least significant byte comes first, at every width and at every valid offset.
func TestLoadReadsLittleEndian(t *testing.T) {
	b := []byte{0x01, 0x23, 0x45, 0x67, 0x89, 0xab, 0xcd, 0xef, 0x00, 0x00, 0x00, 0x80, 0xff, 0xff, 0xff, 0xff}
	for _, x := range []struct {
		at, width int
		want      uint64
	}{
		{0, 1, 0x01}, {1, 1, 0x23}, {7, 1, 0xef}, {8, 1, 0}, {11, 1, 0x80}, {15, 1, 0xff},
		{0, 2, 0x2301}, {2, 2, 0x6745}, {6, 2, 0xefcd}, {8, 2, 0}, {10, 2, 0x8000}, {14, 2, 0xffff},
		{0, 4, 0x67452301}, {4, 4, 0xefcdab89}, {8, 4, 0x80000000}, {12, 4, 0xffffffff},
		{0, 8, 0xefcdab8967452301}, {8, 8, 0xffffffff80000000},
	} {
		if v, e := num.Load(b, x.at, x.width); v != x.want || e != api.OK {
			t.Errorf("Load(b, %d, %d) = %#x, %d; want %#x", x.at, x.width, v, e, x.want)
		}
	}
}

// P1.1: the examples of the chapter.
func TestExamplesOfLoadAndStore(t *testing.T) {
	b := make([]byte, 16)
	for _, x := range []struct {
		at, width int
		want      api.Errno
	}{{16, 1, api.ErrRange}, {6, 4, api.ErrAlign}, {0, 3, api.ErrArg}, {1, 2, api.ErrAlign}} {
		if v, e := num.Load(b, x.at, x.width); v != 0 || e != x.want {
			t.Errorf("Load(b, %d, %d) = %d, %d; want 0, %d", x.at, x.width, v, e, x.want)
		}
	}
	if s, e := num.Store(make([]byte, 4), 2, 2, 258); !bytes.Equal(s, []byte{0, 0, 2, 1}) || e != api.OK {
		t.Error("Store of 258:", s, e)
	}
}

// P1.1: each error, and the order of the errors, for all short slices, offsets around them and widths.
func TestErrorsOfWidthsAndOffsets(t *testing.T) {
	for n := range 18 {
		b := counted(n)
		for at := -9; at <= n+9; at++ {
			for width := -9; width <= 17; width++ {
				want := placeError(n, at, width)
				v, e := num.Load(b, at, width)
				if e != want || e != api.OK && v != 0 || e == api.OK && v == 0 {
					t.Fatalf("Load of %d bytes at %d, width %d = %d, %d; want error %d", n, at, width, v, e, want)
				}
				s, e := num.Store(b, at, width, 1)
				if e != want || e != api.OK && len(s) != 0 || e == api.OK && len(s) != n {
					t.Fatalf("Store of %d bytes at %d, width %d = %v, %d; want error %d", n, at, width, s, e, want)
				}
			}
		}
	}
}

// P1.1: what is no width is named first, whatever else is wrong.
func TestNoWidths(t *testing.T) {
	b := counted(16)
	for _, width := range noWidths {
		for _, at := range []int{0, 1, 8, 15, 16, 17, -1, math.MaxInt, math.MinInt} {
			for _, given := range [][]byte{b, {}, nil} {
				if v, e := num.Load(given, at, width); v != 0 || e != api.ErrArg {
					t.Errorf("Load at %d, width %d = %d, %d; want 0, ErrArg", at, width, v, e)
				}
				for _, v := range []uint64{0, 1, math.MaxUint64} {
					if s, e := num.Store(given, at, width, v); len(s) != 0 || e != api.ErrArg {
						t.Errorf("Store at %d, width %d = %v, %d; want nothing, ErrArg", at, width, s, e)
					}
				}
			}
		}
	}
}

// P1.1: the last valid offset, and the ones after it, up to the greatest number of all.
func TestOffsetsAtTheEnd(t *testing.T) {
	b := counted(16)
	for _, width := range widths {
		if _, e := num.Load(b, 16-width, width); e != api.OK {
			t.Error("Load at the last offset:", width, e)
		}
		if _, e := num.Store(b, 16-width, width, 1); e != api.OK {
			t.Error("Store at the last offset:", width, e)
		}
		far := []int{16 - width + 1, 16, 17, 24, 1 << 20, math.MaxInt - width, math.MaxInt - width + 1, math.MaxInt, -1, -width, -16, math.MinInt, math.MinInt + 1}
		for _, at := range far {
			if v, e := num.Load(b, at, width); v != 0 || e != api.ErrRange {
				t.Errorf("Load at %d, width %d = %d, %d; want 0, ErrRange", at, width, v, e)
			}
			if s, e := num.Store(b, at, width, 1); len(s) != 0 || e != api.ErrRange {
				t.Errorf("Store at %d, width %d = %v, %d; want nothing, ErrRange", at, width, s, e)
			}
		}
	}
}

// P1.1: a slice of nothing has no valid offset, and neither has one that ends within the integer.
func TestNilAndShortSlices(t *testing.T) {
	for _, width := range widths {
		for _, b := range [][]byte{nil, {}, make([]byte, width-1), make([]byte, width-1, 64)} {
			if v, e := num.Load(b, 0, width); v != 0 || e != api.ErrRange {
				t.Errorf("Load of %d bytes, width %d = %d, %d; want 0, ErrRange", len(b), width, v, e)
			}
			if s, e := num.Store(b, 0, width, 0); len(s) != 0 || e != api.ErrRange {
				t.Errorf("Store of %d bytes, width %d = %v, %d; want nothing, ErrRange", len(b), width, s, e)
			}
		}
	}
}

// P1.1: the greatest value that fits is stored; the first one that doesn't is ErrArg.
func TestStoreTakesWhatFits(t *testing.T) {
	for _, width := range widths {
		most := greatest(width)
		want := make([]byte, 16)
		copy(want[8:], bytes.Repeat([]byte{0xff}, width))
		if s, e := num.Store(make([]byte, 16), 8, width, most); !bytes.Equal(s, want) || e != api.OK {
			t.Errorf("Store of %#x, width %d = %v, %d; want %v", most, width, s, e, want)
		}
		if width == 8 {
			continue
		}
		for _, v := range []uint64{most + 1, most + 2, 1 << 63, math.MaxUint64} {
			if s, e := num.Store(make([]byte, 16), 8, width, v); len(s) != 0 || e != api.ErrArg {
				t.Errorf("Store of %#x, width %d = %v, %d; want nothing, ErrArg", v, width, s, e)
			}
		}
	}
}

// P1.1: a value that doesn't fit is named ahead of an offset that isn't valid.
func TestOrderOfErrorsOfStore(t *testing.T) {
	for _, width := range []int{1, 2, 4} {
		for _, b := range [][]byte{counted(16), nil} {
			for _, at := range []int{-1, 1, 15, 16, 17, math.MaxInt, math.MinInt} {
				if s, e := num.Store(b, at, width, greatest(width)+1); len(s) != 0 || e != api.ErrArg {
					t.Errorf("Store at %d, width %d = %v, %d; want nothing, ErrArg", at, width, s, e)
				}
			}
		}
	}
	for _, width := range []int{2, 4, 8} {
		if s, e := num.Store(counted(16), 17, width, 1); len(s) != 0 || e != api.ErrRange {
			t.Errorf("Store beyond the end, width %d = %v, %d; want nothing, ErrRange", width, s, e)
		}
		if s, e := num.Store(counted(16), 1, width, 1); len(s) != 0 || e != api.ErrAlign {
			t.Errorf("Store between, width %d = %v, %d; want nothing, ErrAlign", width, s, e)
		}
	}
}

// P1.1: what is handed in isn't changed, neither its bytes nor those behind it.
func TestArgumentsAreNotChanged(t *testing.T) {
	whole := counted(32)
	b := whole[:16]
	for at := -1; at <= 17; at++ {
		for width := -1; width <= 9; width++ {
			num.Load(b, at, width)
			for _, v := range []uint64{0, 0xee, 0xeeee, math.MaxUint64} {
				num.Store(b, at, width, v)
			}
		}
	}
	if !bytes.Equal(whole, counted(32)) {
		t.Error("changed:", whole)
	}
}

// P1.1: what Store answers is new memory, even if no byte of it differs from what was handed in.
func TestAnswersAreNewMemory(t *testing.T) {
	whole := counted(32)
	b := whole[:16]
	for _, v := range []uint64{1, 200} {
		first, _ := num.Store(b, 0, 1, v)
		second, _ := num.Store(b, 0, 1, v)
		kept := bytes.Clone(first)
		for i := range second {
			second[i] = 99
		}
		_ = append(second, 99)
		if !bytes.Equal(whole, counted(32)) || !bytes.Equal(first, kept) {
			t.Error("an answer shares memory:", whole, first)
		}
		b[5]++
		if !bytes.Equal(first, kept) {
			t.Error("an answer changes with its argument:", first)
		}
		b[5]--
	}
}

// P1.2: the greatest number that fits a width, the first one that doesn't, and widths that are none.
func TestFits(t *testing.T) {
	if num.Fits(65536, 2) {
		t.Error("65536 fits 2 bytes")
	}
	for _, width := range widths {
		for _, v := range []uint64{0, 1, greatest(width) / 2, greatest(width) - 1, greatest(width)} {
			if !num.Fits(v, width) {
				t.Errorf("%#x doesn't fit width %d", v, width)
			}
		}
		if width == 8 {
			continue
		}
		for _, v := range []uint64{greatest(width) + 1, greatest(width) + 2, greatest(width) * 2, 1 << 63, math.MaxUint64} {
			if num.Fits(v, width) {
				t.Errorf("%#x fits width %d", v, width)
			}
		}
	}
	for _, width := range noWidths {
		for _, v := range []uint64{0, 1, math.MaxUint64} {
			if num.Fits(v, width) {
				t.Errorf("%#x fits width %d, which is none", v, width)
			}
		}
	}
}

// P1.2: the smallest multiple that isn't below the number, found by counting up.
func TestRoundCountsUp(t *testing.T) {
	for _, to := range []int{1, 2, 3, 7, 8, 16, 32, 1000, 1024, 4095, 4096} {
		want := 0
		for n := range 3*to + 2 {
			if n > want {
				want += to
			}
			if r := num.Round(n, to); r != want {
				t.Fatalf("Round(%d, %d) = %d; want %d", n, to, r, want)
			}
		}
	}
}

// P1.2: the examples, and the ends of what Round takes.
func TestEndsOfRound(t *testing.T) {
	const most = 1 << 30
	for _, x := range []struct{ n, to, want int }{
		{0, 16, 0}, {17, 16, 32}, {33, 16, 48}, {-1, 16, 0}, {0, 1, 0}, {0, 4096, 0}, {1, 4096, 4096}, {5, 1, 5},
		{most, 1, most}, {most, 4096, most}, {most - 1, 4096, most}, {most, 4095, 262209 * 4095}, {most, 3, most + 2},
		{most + 1, 1, 0}, {most + 1, 4096, 0}, {most + 4096, 4096, 0}, {math.MaxInt, 1, 0}, {math.MaxInt, 4096, 0},
		{16, 4097, 0}, {4097, 4097, 0}, {16, 8192, 0}, {16, 0, 0}, {16, -1, 0}, {16, -16, 0}, {16, math.MaxInt, 0}, {16, math.MinInt, 0},
		{-16, 16, 0}, {-17, 16, 0}, {-1, 1, 0}, {-1, -1, 0}, {0, 0, 0}, {math.MinInt, 16, 0}, {math.MinInt, -1, 0},
	} {
		if r := num.Round(x.n, x.to); r != x.want {
			t.Errorf("Round(%d, %d) = %d; want %d", x.n, x.to, r, x.want)
		}
	}
}

// P1.2: how often a number is halved, around every power of 2, and nothing below 1.
func TestHalves(t *testing.T) {
	for _, x := range []struct{ n, want int }{
		{1024, 11}, {5, 3}, {-4, 0}, {0, 0}, {-1, 0}, {-1024, 0}, {math.MinInt, 0}, {math.MinInt + 1, 0},
		{1, 1}, {2, 2}, {3, 2}, {4, 3}, {7, 3}, {8, 4}, {1023, 10}, {1025, 11}, {math.MaxInt, strconv.IntSize - 1},
	} {
		if h := num.Halves(x.n); h != x.want {
			t.Errorf("Halves(%d) = %d; want %d", x.n, h, x.want)
		}
	}
	for i := range strconv.IntSize - 1 {
		if h := num.Halves(1 << i); h != i+1 {
			t.Errorf("Halves(1 << %d) = %d; want %d", i, h, i+1)
		}
		if h := num.Halves(1<<i - 1); h != i {
			t.Errorf("Halves(1 << %d - 1) = %d; want %d", i, h, i)
		}
	}
}

// P1.3: Load returns what Store has stored, and no other byte is another one.
func TestLoadReturnsWhatStoreHasStored(t *testing.T) {
	b := counted(24)
	for _, width := range widths {
		for at := 0; at+width <= len(b); at += width {
			for _, v := range []uint64{0, 1, 0x80, 0x1234, 0x89abcdef, 0x0102030405060708, 0xfedcba9876543210, math.MaxUint64} {
				v &= greatest(width)
				s, e := num.Store(b, at, width, v)
				if e != api.OK || len(s) != len(b) {
					t.Fatalf("Store at %d, width %d, of %#x = %v, %d", at, width, v, s, e)
				}
				if got, e := num.Load(s, at, width); got != v || e != api.OK {
					t.Errorf("Load at %d, width %d = %#x, %d; want %#x", at, width, got, e, v)
				}
				if !bytes.Equal(s[:at], b[:at]) || !bytes.Equal(s[at+width:], b[at+width:]) {
					t.Errorf("Store at %d, width %d, of %#x changed another byte: %v", at, width, v, s)
				}
			}
		}
	}
}

// P1.3: an integer's parts, loaded with a smaller width, are its parts, the least significant one first.
func TestPartsOfAnInteger(t *testing.T) {
	const v = 0xfedcba9876543210
	for _, width := range widths {
		s, _ := num.Store(make([]byte, 16), 8, width, v&greatest(width))
		for _, smaller := range widths {
			for at := 0; at+smaller <= width; at += smaller {
				want := v >> (8 * at) & greatest(smaller)
				if got, e := num.Load(s, 8+at, smaller); got != want || e != api.OK {
					t.Errorf("part %d of width %d in width %d = %#x, %d; want %#x", at, smaller, width, got, e, want)
				}
			}
		}
	}
}

// P1.3: Round exceeds its number by less than the step, at every step, and answers a multiple of it.
func TestRoundExceedsByLessThanTheStep(t *testing.T) {
	for to := 1; to <= 4096; to++ {
		for _, n := range []int{0, 1, to - 1, to, to + 1, 1000003, 1<<30 - to, 1<<30 - 1, 1 << 30} {
			r := num.Round(n, to)
			if r < n || r-n >= to || r%to != 0 {
				t.Fatalf("Round(%d, %d) = %d", n, to, r)
			}
		}
	}
}
