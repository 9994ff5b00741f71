package spans_test

import (
	"bytes"
	"math"
	"slices"
	"strings"
	"testing"

	"columbarium/api"
	"columbarium/records"
	"columbarium/spans"
)

// most is the greatest number that a valid span has.
const most = 1 << 40

// texts answers records of texts.
func texts(all ...string) [][]byte {
	l := [][]byte{}
	for _, s := range all {
		l = append(l, []byte(s))
	}
	return l
}

// counted answers a record of n bytes, those next to each other apart from each other.
func counted(from int, n int) []byte {
	b := make([]byte, n)
	for i := range b {
		b[i] = byte((from + i) % 251)
	}
	return b
}

// pack answers the encoding of records that can be packed.
func pack(t *testing.T, l [][]byte) []byte {
	t.Helper()
	b, e := records.Pack(l)
	if e != api.OK {
		t.Fatalf("Pack(%q): %d", l, e)
	}
	return b
}

// numbers answers a function that answers numbers below n, the same ones at each start.
func numbers(seed uint32) func(n int) int {
	return func(n int) int {
		seed = seed*1664525 + 1013904223
		return int(seed>>8) % n
	}
}

// sets answers record sets that can be packed: each number of records, the longest ones, and many more.
func sets() [][][]byte {
	all := [][][]byte{texts("abc", "", "de"), texts("ab", ""), texts(""), texts("", ""), texts("x"), texts("", "", "x"), texts("\x00", "\x00\xff"), texts("same", "same"), {nil}, {counted(0, 255)}, {counted(0, 256)}, {counted(0, 476)}, {counted(0, 257), counted(9, 217)}}
	for n := 1; n <= 16; n++ {
		all = append(all, make([][]byte, n), slices.Repeat(texts("one"), n))
		for long := range n {
			l := make([][]byte, n)
			l[long] = counted(n, 478-2*n)
			all = append(all, l)
		}
	}
	number := numbers(7)
	for range 500 {
		l := [][]byte{}
		left := 480 - 2
		for range 1 + number(16) {
			record := counted(number(256), number(1+min(number(60), max(0, left-2))))
			left -= 2 + len(record)
			l = append(l, record)
		}
		if left >= 0 {
			all = append(all, l)
		}
	}
	return all
}

// of answers word by word what Of answers: it reads the ends, of which records.Unpack has found nothing wrong.
func of(b []byte) ([]api.Span, api.Errno) {
	if _, e := records.Unpack(b); e != api.OK {
		return nil, e
	}
	n := int(b[0])
	var l []api.Span
	before := 0
	for i := range n {
		next := int(b[2+2*i]) + 256*int(b[3+2*i])
		l = append(l, api.Span{At: 2 + 2*n + before, Len: next - before})
		before = next
	}
	return l, api.OK
}

// checkOf holds what Of and Views answer against the chapter's words.
func checkOf(t *testing.T, b []byte) {
	t.Helper()
	want, f := of(b)
	if l, e := spans.Of(b); e != f || !slices.Equal(l, want) {
		t.Fatalf("Of(%q) = %v, %d; want %v, %d", b, l, e, want, f)
	}
	views, e := spans.Views(b)
	if e != f || len(views) != len(want) {
		t.Fatalf("Views(%q) = %q, %d; want %d views, %d", b, views, e, len(want), f)
	}
	for i, s := range want {
		if string(views[i]) != string(b[s.At:s.At+s.Len]) || cap(views[i]) != s.Len {
			t.Fatalf("view %d of %q is %q with room for %d; want %v", i, b, views[i], cap(views[i]), s)
		}
	}
}

// P7.1: encodings whose spans are known.
func TestKnownOf(t *testing.T) {
	for _, x := range []struct {
		l    [][]byte
		want []api.Span
	}{
		{texts("abc", "", "de"), []api.Span{{At: 8, Len: 3}, {At: 11}, {At: 11, Len: 2}}},
		{texts("ab", ""), []api.Span{{At: 6, Len: 2}, {At: 8}}},
		{texts("", "ab"), []api.Span{{At: 6}, {At: 6, Len: 2}}},
		{texts(""), []api.Span{{At: 4}}},
		{texts("x"), []api.Span{{At: 4, Len: 1}}},
		{texts("", "", ""), []api.Span{{At: 8}, {At: 8}, {At: 8}}},
		{[][]byte{counted(0, 476)}, []api.Span{{At: 4, Len: 476}}},
		{[][]byte{counted(0, 255), counted(1, 1), counted(2, 216)}, []api.Span{{At: 8, Len: 255}, {At: 263, Len: 1}, {At: 264, Len: 216}}},
		{append(make([][]byte, 15), counted(0, 446)), append(slices.Repeat([]api.Span{{At: 34}}, 15), api.Span{At: 34, Len: 446})},
		{append([][]byte{counted(0, 446)}, make([][]byte, 15)...), append([]api.Span{{At: 34, Len: 446}}, slices.Repeat([]api.Span{{At: 480}}, 15)...)},
	} {
		b := pack(t, x.l)
		if l, e := spans.Of(b); e != api.OK || !slices.Equal(l, x.want) {
			t.Errorf("Of(%q) = %v, %d; want %v", b, l, e, x.want)
		}
		if views, e := spans.Views(b); e != api.OK || !records.Same(views, x.l) {
			t.Errorf("Views(%q) = %q, %d; want %q", b, views, e, x.l)
		}
	}
}

// P7.1: bytes that are no encoding, and the error of each.
func TestKnownErrors(t *testing.T) {
	for _, x := range []struct {
		b string
		e api.Errno
	}{
		{"", api.ErrShort}, {"\x01", api.ErrShort}, {"\x00", api.ErrShort}, {"\x00\x00", api.ErrForm}, {"\x11\x00", api.ErrForm}, {"\x01\x01\x00\x00", api.ErrForm},
		{"\x01\x00", api.ErrShort}, {"\x03\x00\x03\x00", api.ErrShort}, {"\x02\x00\x02\x00\x01\x00ab", api.ErrForm}, {"\x02\x00\x02\x00\x01\x00", api.ErrForm}, {"\x01\x00\x01\x00", api.ErrShort}, {"\x01\x00\xff\xff", api.ErrShort},
		{"\x01\x00\x00\x00a", api.ErrForm}, {"\x01\x00\xdd\x01" + strings.Repeat("x", 477), api.ErrForm}, {"\x01\x00\xdd\x01" + strings.Repeat("x", 476), api.ErrShort},
	} {
		if l, e := spans.Of([]byte(x.b)); e != x.e || len(l) != 0 {
			t.Errorf("Of(%q) = %v, %d; want %d", x.b, l, e, x.e)
		}
		if views, e := spans.Views([]byte(x.b)); e != x.e || len(views) != 0 {
			t.Errorf("Views(%q) = %q, %d; want %d", x.b, views, e, x.e)
		}
	}
	if l, e := spans.Of(nil); e != api.ErrShort || len(l) != 0 {
		t.Errorf("Of(nil) = %v, %d", l, e)
	}
	if views, e := spans.Views(nil); e != api.ErrShort || len(views) != 0 {
		t.Errorf("Views(nil) = %q, %d", views, e)
	}
}

// P7.1: encodings, whole, cut, longer, and with one byte that is another one.
func TestOfAndViews(t *testing.T) {
	for _, l := range sets() {
		b := pack(t, l)
		checkOf(t, b)
		for i := range b {
			checkOf(t, b[:i])
		}
		for n := 1; n < 5; n++ {
			checkOf(t, append(bytes.Clone(b), make([]byte, n)...))
		}
	}
	for _, l := range [][][]byte{texts("abc", "", "de"), texts(""), texts("", "ab", "\x01\x00"), {counted(0, 256)}, append(make([][]byte, 15), counted(0, 446))} {
		b := pack(t, l)
		for i := range min(len(b), 40) {
			for c := range 256 {
				changed := bytes.Clone(b)
				changed[i] = byte(c)
				checkOf(t, changed)
			}
		}
	}
}

// P7.1: all short rows of some bytes.
func TestOfShortRows(t *testing.T) {
	rows := [][]byte{nil}
	for range 8 {
		var longer [][]byte
		for _, row := range rows {
			checkOf(t, row)
			// What the first two bytes rule out needs no more of them.
			if len(row) == 3 && (row[0] == 0 || row[0] > 16 || row[1] != 0) {
				continue
			}
			for _, c := range []byte{0, 1, 2, 3, 17} {
				longer = append(longer, append(slices.Clone(row), c))
			}
		}
		rows = longer
	}
}

// P7.1: what Of and Views answer is a list of its own.
func TestListsAreNewMemory(t *testing.T) {
	b := pack(t, texts("abc", "", "de"))
	first, _ := spans.Of(b)
	second, _ := spans.Of(b)
	clear(second)
	if want, _ := of(b); !slices.Equal(first, want) {
		t.Errorf("two lists of spans share memory: %v", first)
	}
	one, _ := spans.Views(b)
	two, _ := spans.Views(b)
	clear(two)
	if !records.Same(one, texts("abc", "", "de")) {
		t.Errorf("two lists of views share memory: %q", one)
	}
}

// edges are numbers at the ends of what an int holds and of what a valid span has, and small ones.
var edges = []int{math.MinInt, math.MinInt + 1, math.MinInt + 13, math.MinInt32, -most - 1, -most, -14, -13, -12, -2, -1, 0, 1, 2, 3, 8, 11, 12, 13, 14, 15, math.MaxInt32, math.MaxInt32 + 1, math.MaxUint32, math.MaxUint32 + 1, math.MaxUint32 + 2, most - 1, most, most + 1, math.MaxInt / 2, math.MaxInt/2 + 1, math.MaxInt - 13, math.MaxInt - 1, math.MaxInt}

// reaches tells step by step whether each byte of a span is one of n bytes, and its first offset one of them or the one behind them.
func reaches(s api.Span, n int) bool {
	if s.At < 0 || s.At > n || s.Len < 0 || s.Len > n {
		return false
	}
	for range s.Len {
		if s.At == n {
			return false
		}
		s.At++
	}
	return true
}

// checkCut holds what Cut answers against the chapter's words.
func checkCut(t *testing.T, b []byte, s api.Span) {
	t.Helper()
	v, e := spans.Cut(b, s)
	if !reaches(s, len(b)) {
		if e != api.ErrRange || v != nil {
			t.Errorf("Cut of %d bytes, %v = %q, %d; want ErrRange", len(b), s, v, e)
		}
		return
	}
	if e != api.OK || len(v) != s.Len || cap(v) != s.Len {
		t.Errorf("Cut of %d bytes, %v = %d bytes with room for %d, %d", len(b), s, len(v), cap(v), e)
		return
	}
	for i := range v {
		if &v[i] != &b[s.At+i] {
			t.Errorf("byte %d of Cut of %d bytes, %v is none of these bytes", i, len(b), s)
			return
		}
	}
}

// P7.1: all spans of and around some bytes, and those at the ends of what an int holds; only the length of the bytes counts.
func TestCut(t *testing.T) {
	for n := range 16 {
		b := counted(1, 30)[:n]
		for at := -3; at < 34; at++ {
			for k := -3; k < 34; k++ {
				checkCut(t, b, api.Span{At: at, Len: k})
				checkCut(t, b[:n:n], api.Span{At: at, Len: k})
			}
		}
		for _, at := range edges {
			for _, k := range edges {
				checkCut(t, b, api.Span{At: at, Len: k})
			}
		}
	}
	for _, n := range []int{480, 481, 70000} {
		b := counted(0, n)
		for _, s := range []api.Span{{Len: n}, {Len: n + 1}, {At: n}, {At: n, Len: 1}, {At: n + 1}, {At: n - 1, Len: 1}, {At: n - 1, Len: 2}, {At: 1, Len: n - 1}, {At: 1, Len: n}, {At: -1, Len: n}, {At: n, Len: -1}, {At: n / 2, Len: n - n/2}, {At: n / 2, Len: n - n/2 + 1}} {
			checkCut(t, b, s)
		}
	}
	if _, e := spans.Cut(pack(t, texts("abc", "", "de")), api.Span{At: 10, Len: 4}); e != api.ErrRange {
		t.Errorf("Cut of 13 bytes, (10, 4): %d; want ErrRange", e)
	}
}

// P7.1: of nothing there is the empty span alone.
func TestCutOfNothing(t *testing.T) {
	for _, b := range [][]byte{nil, {}, make([]byte, 0, 10)} {
		if v, e := spans.Cut(b, api.Span{}); e != api.OK || len(v) != 0 || cap(v) != 0 {
			t.Errorf("Cut of nothing, the empty span = %q with room for %d, %d", v, cap(v), e)
		}
		for _, s := range []api.Span{{At: 1}, {Len: 1}, {At: -1}, {Len: -1}, {At: -1, Len: 1}, {At: 1, Len: -1}} {
			checkCut(t, b, s)
		}
	}
}

// P7.1: what is cut shares its memory, and what is appended to it is in none of the bytes.
func TestCutSharesMemory(t *testing.T) {
	room := []byte("0123456789abc")
	b := room[:10]
	v, e := spans.Cut(b, api.Span{At: 3, Len: 4})
	if e != api.OK || string(v) != "3456" {
		t.Fatalf("Cut = %q, %d", v, e)
	}
	v[0], v[3] = 'X', 'Y'
	b[4] = 'Z'
	if string(room) != "012XZ5Y789abc" || string(v) != "XZ5Y" {
		t.Errorf("a view and its bytes are apart: %q, %q", v, room)
	}
	last, _ := spans.Cut(b, api.Span{At: 8, Len: 2})
	none, _ := spans.Cut(b, api.Span{At: 10})
	for _, view := range [][]byte{v, last, none} {
		view = append(view, "more of it"...)
		view[0] = '#'
	}
	if string(room) != "012XZ5Y789abc" {
		t.Errorf("what was appended to a view is in its bytes: %q", room)
	}
}

// invalid are spans with a number that is negative or beyond 2^40.
func invalid() []api.Span {
	var all []api.Span
	for _, x := range []int{math.MinInt, math.MinInt + 1, -most - 1, -most, -2, -1, most + 1, most + 2, 2 * most, math.MaxInt - 1, math.MaxInt} {
		for _, y := range []int{math.MinInt, -most, -1, 0, 1, 5, most - 1, most, most + 1, math.MaxInt - 1, math.MaxInt} {
			all = append(all, api.Span{At: x, Len: y}, api.Span{At: y, Len: x})
		}
	}
	return all
}

// P7.2: a span that is not valid is neither inside another one nor around it nor apart from it.
func TestInvalid(t *testing.T) {
	others := []api.Span{{}, {At: 1}, {Len: 1}, {At: 3, Len: 5}, {Len: most}, {At: most}, {At: most, Len: most}, {At: most - 1, Len: 1}}
	for _, bad := range invalid() {
		for _, s := range append(others, bad, api.Span{At: -1, Len: 2}, api.Span{At: most + 1}) {
			if spans.Inside(bad, s) || spans.Inside(s, bad) {
				t.Errorf("%v is inside %v, or the other way round, although one is not valid", bad, s)
			}
			if spans.Apart(bad, s) || spans.Apart(s, bad) {
				t.Errorf("%v and %v are apart although one is not valid", bad, s)
			}
		}
	}
}

// P7.2: spans of which it is known how they lie, at both ends of what is valid.
func TestKnownInsideAndApart(t *testing.T) {
	for _, x := range []struct {
		a, b   api.Span
		inside bool // a in b
		around bool // b in a
		apart  bool
	}{
		{api.Span{At: 2, Len: 1}, api.Span{At: 1, Len: 2}, true, false, false},
		{api.Span{At: 2, Len: 1}, api.Span{At: 3, Len: 1}, false, false, true},
		{api.Span{At: 2, Len: 2}, api.Span{At: 3, Len: 1}, false, true, false},
		{api.Span{}, api.Span{}, true, true, true},
		{api.Span{}, api.Span{At: 0, Len: 3}, true, false, true},
		{api.Span{At: 3}, api.Span{At: 0, Len: 3}, true, false, true},
		{api.Span{At: 4}, api.Span{At: 0, Len: 3}, false, false, true},
		{api.Span{At: 1}, api.Span{At: 2}, false, false, true},
		{api.Span{At: 1, Len: 3}, api.Span{At: 1, Len: 3}, true, true, false},
		{api.Span{At: 1, Len: 3}, api.Span{At: 2, Len: 3}, false, false, false},
		{api.Span{At: most, Len: most}, api.Span{At: most, Len: most}, true, true, false},
		{api.Span{At: most}, api.Span{At: most}, true, true, true},
		{api.Span{At: most}, api.Span{Len: most}, true, false, true},
		{api.Span{At: most, Len: 1}, api.Span{Len: most}, false, false, true},
		{api.Span{At: most, Len: most}, api.Span{Len: most}, false, false, true},
		{api.Span{At: most - 1, Len: 1}, api.Span{Len: most}, true, false, false},
		{api.Span{At: most - 1, Len: 2}, api.Span{Len: most}, false, false, false},
		{api.Span{At: most - 1, Len: most}, api.Span{At: most, Len: most}, false, false, false},
		{api.Span{At: 1, Len: most}, api.Span{At: most, Len: 1}, false, true, false},
		{api.Span{At: 1 << 32, Len: 1}, api.Span{At: 0, Len: 1}, false, false, true},
		{api.Span{At: 1, Len: 1 << 32}, api.Span{At: 1, Len: 1}, false, true, false},
	} {
		if inside := spans.Inside(x.a, x.b); inside != x.inside {
			t.Errorf("Inside(%v, %v) = %t", x.a, x.b, inside)
		}
		if around := spans.Inside(x.b, x.a); around != x.around {
			t.Errorf("Inside(%v, %v) = %t", x.b, x.a, around)
		}
		if apart := spans.Apart(x.a, x.b); apart != x.apart {
			t.Errorf("Apart(%v, %v) = %t", x.a, x.b, apart)
		}
		if apart := spans.Apart(x.b, x.a); apart != x.apart {
			t.Errorf("Apart(%v, %v) = %t", x.b, x.a, apart)
		}
	}
}

// haveCommon tells byte by byte whether two spans have one in common.
func haveCommon(a api.Span, b api.Span) bool {
	for i := range a.Len {
		for k := range b.Len {
			if a.At+i == b.At+k {
				return true
			}
		}
	}
	return false
}

// P7.2: all pairs of short spans, near 0 and near 2^40.
func TestInsideAndApart(t *testing.T) {
	for _, base := range []int{0, 1, 1000, most - 8} {
		var all []api.Span
		for at := range 8 {
			for n := range 8 {
				all = append(all, api.Span{At: base + at, Len: n})
			}
		}
		for _, a := range all {
			for _, b := range all {
				if inside := spans.Inside(a, b); inside != (a.At >= b.At && a.At+a.Len <= b.At+b.Len) {
					t.Errorf("Inside(%v, %v) = %t", a, b, inside)
				}
				if apart := spans.Apart(a, b); apart == haveCommon(a, b) {
					t.Errorf("Apart(%v, %v) = %t", a, b, apart)
				}
			}
		}
	}
}

// P7.3: the views are the records; their spans follow one another, are apart from each other, and are inside the encoding.
func TestHowSpansLie(t *testing.T) {
	for _, set := range sets() {
		b := pack(t, set)
		whole := api.Span{Len: len(b)}
		l, e := spans.Of(b)
		if e != api.OK || len(l) != len(set) {
			t.Fatalf("Of(%q) = %v, %d", b, l, e)
		}
		if views, e := spans.Views(b); e != api.OK || !records.Same(views, set) {
			t.Errorf("Views(%q) = %q, %d; want %q", b, views, e, set)
		}
		next := l[0].At
		for i, s := range l {
			if s.At != next || !spans.Inside(s, whole) {
				t.Errorf("span %d of %q is %v; want one inside at %d", i, b, s, next)
			}
			next = s.At + s.Len
			for k, other := range l {
				if k != i && !spans.Apart(s, other) {
					t.Errorf("spans %d and %d of %q are not apart: %v, %v", i, k, b, s, other)
				}
			}
		}
		if next != len(b) {
			t.Errorf("the last span of %q ends at %d", b, next)
		}
	}
}

// P7.3: a byte that is written into a view changes the encoding, at its place alone.
func TestWrittenIntoViews(t *testing.T) {
	for _, set := range sets()[:60] {
		b := pack(t, set)
		l, _ := spans.Of(b)
		views, e := spans.Views(b)
		if e != api.OK {
			t.Fatalf("Views(%q): %d", b, e)
		}
		for i, view := range views {
			for k := range view {
				want := bytes.Clone(b)
				want[l[i].At+k] ^= 255
				view[k] ^= 255
				if !bytes.Equal(b, want) {
					t.Fatalf("byte %d of view %d was written, and the encoding is %q; want %q", k, i, b, want)
				}
			}
		}
		if again, e := records.Unpack(b); e != api.OK || !records.Same(again, views) {
			t.Errorf("the encoding has the records %q, %d, its views are %q", again, e, views)
		}
	}
}

// P7.3: what is appended to a view changes neither the encoding nor what lies behind it.
func TestAppendedToViews(t *testing.T) {
	for _, set := range sets()[:60] {
		b := append(pack(t, set), "behind"...)
		before := string(b)
		views, e := spans.Views(b[:len(b)-6])
		if e != api.OK {
			t.Fatalf("Views(%q): %d", b, e)
		}
		for _, view := range views {
			for _, more := range []string{"m", strings.Repeat("more", 200)} {
				longer := append(view, more...)
				for i := range longer {
					longer[i] = '#'
				}
			}
		}
		if string(b) != before || !records.Same(views, set) {
			t.Errorf("what was appended to views changed %q to %q, %q", before, b, views)
		}
	}
}

// P7.1: Of, Cut and Views change nothing, and only the length of the bytes counts.
func TestBytesAreNotChanged(t *testing.T) {
	long := append(pack(t, texts("abc", "", "de")), "behind"...)
	before := string(long)
	b := long[:13]
	checkOf(t, b)
	checkOf(t, long[:12])
	checkOf(t, long[:14])
	for _, s := range []api.Span{{At: 8, Len: 3}, {At: 13}, {At: 13, Len: 1}, {Len: 13}, {Len: 14}, {At: 19}} {
		checkCut(t, b, s)
	}
	if string(long) != before {
		t.Errorf("%q is changed to %q", before, long)
	}
}
