package wire_test

import (
	"bytes"
	"math"
	"slices"
	"strings"
	"testing"

	"columbarium/api"
	"columbarium/wire"
)

const (
	capitals = "ABCDEFGHIJKLMNOPQRSTUVWXYZ"
	small    = "abcdefghijklmnopqrstuvwxyz"
)

// bad are texts that are no labels.
var bad = []string{
	"", ".", "..", "a.b", ".a", "a.", " ", "a b", " a", "a ", "\t", "\x00", "\x1f", "\x7f", "\x80", "\xff", "\xc0\x00", "É", "é", "\u212a", strings.Repeat("x", 64), strings.Repeat("X", 65), strings.Repeat("x", 256), strings.Repeat("x", 257), strings.Repeat("x", 300),
}

// packedExample is what the names of the chapter's example are packed as.
const packedExample = "\x03www\x01a\x03org\x00\x04mail\xc0\x04\xc0\x06\x00\xc0\x04"

// lower answers a text with its letters from A to Z small.
func lower(s string) string {
	b := []byte(s)
	for i, c := range b {
		if at := strings.IndexByte(capitals, c); at >= 0 {
			b[i] = small[at]
		}
	}
	return string(b)
}

// upper answers a text with its letters from a to z large.
func upper(s string) string {
	b := []byte(s)
	for i, c := range b {
		if at := strings.IndexByte(small, c); at >= 0 {
			b[i] = capitals[at]
		}
	}
	return string(b)
}

// mapped answers what a function makes of each label.
func mapped(labels []string, f func(string) string) []string {
	var all []string
	for _, label := range labels {
		all = append(all, f(label))
	}
	return all
}

// isLabel tells word by word whether a text is a label: 1 to 63 bytes from 33 to 126, none of them a dot.
func isLabel(s string) bool {
	for i := range len(s) {
		if s[i] < 33 || s[i] > 126 || s[i] == 46 {
			return false
		}
	}
	return len(s) >= 1 && len(s) <= 63
}

// size answers how many bytes labels need, those of the lengths and the last one with them.
func size(labels []string) int {
	return 1 + len(labels) + len(strings.Join(labels, ""))
}

// check answers word by word what name.Check answers.
func check(labels []string) api.Errno {
	for _, label := range labels {
		if !isLabel(label) {
			return api.ErrName
		}
	}
	if size(labels) > 255 {
		return api.ErrNameTooLong
	}
	return api.OK
}

// put answers word by word what P5.1 has Put answer.
func put(labels []string) ([]byte, api.Errno) {
	if e := check(labels); e != api.OK {
		return nil, e
	}
	s := ""
	for _, label := range labels {
		s += string([]byte{byte(len(label))}) + lower(label)
	}
	return []byte(s + "\x00"), api.OK
}

// pack answers word by word what P5.2 has Pack answer: it looks through all suffixes whose first label was written, the first one first.
func pack(names [][]string) ([]byte, []int, api.Errno) {
	if len(names) > 64 {
		return nil, nil, api.ErrArg
	}
	for _, labels := range names {
		if e := check(labels); e != api.OK {
			return nil, nil, e
		}
	}
	var b []byte
	var starts, offsets []int
	var written [][]string
	for _, labels := range names {
		starts = append(starts, len(b))
		low := mapped(labels, lower)
		for i := 0; ; i++ {
			if i == len(low) {
				b = append(b, 0)
				break
			}
			if k := slices.IndexFunc(written, func(w []string) bool { return slices.Equal(w, low[i:]) }); k >= 0 {
				b = append(b, byte(192+offsets[k]/256), byte(offsets[k]%256))
				break
			}
			written, offsets = append(written, low[i:]), append(offsets, len(b))
			b = append(append(b, byte(len(low[i]))), low[i]...)
		}
	}
	return b, starts, api.OK
}

// get answers word by word what P5.3 has Get answer: it reads a byte at a time and looks at each for what is wrong with it.
func get(b []byte, at int) ([]string, int, api.Errno) {
	if at < 0 || at >= len(b) {
		return nil, 0, api.ErrArg
	}
	var labels []string
	begin, after, wire := at, -1, 1
	next := func() (int, bool) {
		at++
		if at > len(b) {
			return 0, false
		}
		return int(b[at-1]), true
	}
	for {
		c, ok := next()
		if !ok {
			return nil, 0, api.ErrShort
		}
		if c == 0 && after < 0 {
			return labels, at, api.OK
		}
		if c == 0 {
			return labels, after, api.OK
		}
		if c >= 64 && c <= 191 {
			return nil, 0, api.ErrForm
		}
		if c >= 192 {
			low, ok := next()
			if !ok {
				return nil, 0, api.ErrShort
			}
			if after < 0 {
				after = at
			}
			to := (c-192)*256 + low
			if to >= begin {
				return nil, 0, api.ErrForm
			}
			begin, at = to, to
			continue
		}
		label := ""
		for range c {
			d, ok := next()
			if !ok {
				return nil, 0, api.ErrShort
			}
			label += string([]byte{byte(d)})
		}
		if !isLabel(label) {
			return nil, 0, api.ErrForm
		}
		labels = append(labels, lower(label))
		wire += 1 + c
		if wire > 255 {
			return nil, 0, api.ErrNameTooLong
		}
	}
}

// all answers word by word what P5.4 has All answer.
func all(b []byte) ([][]string, api.Errno) {
	var names [][]string
	for at := 0; at != len(b); {
		labels, after, e := get(b, at)
		if e != api.OK {
			return nil, e
		}
		names, at = append(names, labels), after
	}
	return names, api.OK
}

// same tells whether both have the same names.
func same(a [][]string, b [][]string) bool {
	return slices.EqualFunc(a, b, slices.Equal[[]string])
}

// sized answers labels that need n bytes, for n from 3 on: as few as can be, of one letter.
func sized(letter string, n int) []string {
	var labels []string
	for n -= 1; n > 0; {
		k := min(n-1, 63)
		// One byte left over is no label.
		if n-1-k == 1 {
			k--
		}
		labels = append(labels, strings.Repeat(letter, k))
		n -= 1 + k
	}
	return labels
}

// words answers all lists of at most n of some elements.
func words[T any](of []T, n int) [][]T {
	lists := [][]T{nil}
	last := lists
	for range n {
		var longer [][]T
		for _, list := range last {
			for _, x := range of {
				longer = append(longer, append(slices.Clone(list), x))
			}
		}
		lists, last = append(lists, longer...), longer
	}
	return lists
}

// numbers answers a function that answers numbers below n, the same ones at each start.
func numbers(seed uint32) func(n int) int {
	return func(n int) int {
		seed = seed*1664525 + 1013904223
		return int(seed>>8) % n
	}
}

// drawn answers n names of few labels, so that many of them end alike.
func drawn(number func(n int) int, n int) [][]string {
	labels := []string{"a", "A", "b", "ab", "aB", "www", "Org", "org", "x-1", "~", strings.Repeat("q", 63)}
	var names [][]string
	for range n {
		var one []string
		for range number(6) {
			one = append(one, labels[number(len(labels))])
		}
		if check(one) == api.OK {
			names = append(names, one)
		}
	}
	return names
}

// long answers 64 names of 255 bytes that have no label in common.
func long() [][]string {
	var names [][]string
	for i := range 64 {
		names = append(names, sized(string([]byte{"0123456789abcdefghijklmnopqrstuvwxyz!#$%&'()*+,-/:;<=>?@[]^_`{|}"[i]}), 255))
	}
	return names
}

// P5.1: names whose bytes are known.
func TestKnownPut(t *testing.T) {
	for _, x := range []struct {
		labels []string
		want   string
	}{
		{nil, "\x00"}, {[]string{}, "\x00"}, {[]string{"a"}, "\x01a\x00"}, {[]string{"www", "a", "org"}, "\x03www\x01a\x03org\x00"},
		{[]string{"Mail", "A", "ORG"}, "\x04mail\x01a\x03org\x00"}, {[]string{"A-_9~!", "@Z[`z{"}, "\x06a-_9~!\x06@z[`z{\x00"}, {[]string{"a", "A", "a"}, "\x01a\x01a\x01a\x00"},
		{[]string{strings.Repeat("X", 63)}, "\x3f" + strings.Repeat("x", 63) + "\x00"}, {slices.Repeat([]string{"z"}, 127), strings.Repeat("\x01z", 127) + "\x00"},
	} {
		if b, e := wire.Put(x.labels); e != api.OK || string(b) != x.want {
			t.Errorf("Put(%q) = %q, %d; want %q", x.labels, b, e, x.want)
		}
	}
}

// P5.1: every length of a label and of a name, and each byte, from the first one that is too few to the first one that is too many.
func TestPut(t *testing.T) {
	lists := words([]string{"a", "B", "Cd", "", "."}, 4)
	for n := range 70 {
		lists = append(lists, []string{strings.Repeat("N", n)}, []string{"a", strings.Repeat("n", n), "b"})
	}
	for n := 3; n < 300; n++ {
		lists = append(lists, sized("a", n), sized("Z", n), slices.Repeat([]string{"y"}, n))
	}
	for c := range 256 {
		b := string([]byte{byte(c)})
		lists = append(lists, []string{b}, []string{"a" + b}, []string{"org", b + "a"})
	}
	for _, labels := range lists {
		want, f := put(labels)
		if b, e := wire.Put(labels); e != f || !bytes.Equal(b, want) {
			t.Errorf("Put(%q) = %q, %d; want %q, %d", labels, b, e, want, f)
		}
	}
}

// P5.1: what is no name has no bytes, and what is no label is told ahead of a name that is too long.
func TestPutErrors(t *testing.T) {
	for _, label := range bad {
		for _, labels := range [][]string{{label}, {"a", label}, {label, "a"}, {"a", label, "b"}, append(slices.Repeat([]string{"a"}, 200), label), append([]string{label}, slices.Repeat([]string{"a"}, 200)...)} {
			if b, e := wire.Put(labels); e != api.ErrName || len(b) != 0 {
				t.Errorf("Put(%q) = %q, %d; want ErrName", labels, b, e)
			}
		}
	}
	for _, labels := range [][]string{slices.Repeat([]string{"a"}, 128), sized("a", 256), sized("a", 257), slices.Repeat([]string{"abc"}, 64), slices.Repeat([]string{"a"}, 100000)} {
		if b, e := wire.Put(labels); e != api.ErrNameTooLong || len(b) != 0 {
			t.Errorf("Put(%q) = %q, %d; want ErrNameTooLong", labels, b, e)
		}
	}
}

// P5.2: names whose bytes are known.
func TestKnownPack(t *testing.T) {
	for _, x := range []struct {
		names  [][]string
		want   string
		starts []int
	}{
		{nil, "", nil}, {[][]string{}, "", nil}, {[][]string{nil}, "\x00", []int{0}}, {[][]string{{}, nil, {}}, "\x00\x00\x00", []int{0, 1, 2}},
		{[][]string{{"www", "a", "org"}, {"mail", "A", "ORG"}, {"org"}, {}, {"a", "org"}}, packedExample, []int{0, 11, 18, 20, 21}},
		{[][]string{{"a", "b"}, {"c", "b"}}, "\x01a\x01b\x00\x01c\xc0\x02", []int{0, 5}},
		{[][]string{{"WWW", "A"}, {"www", "a"}, {"Www", "A"}}, "\x03www\x01a\x00\xc0\x00\xc0\x00", []int{0, 7, 9}},
		// A suffix that ends in a pointer is pointed to as well, and so is one within it.
		{[][]string{{"a", "b"}, {"c", "b"}, {"d", "c", "b"}, {"e", "d", "c", "b"}, {"c", "b"}}, "\x01a\x01b\x00\x01c\xc0\x02\x01d\xc0\x05\x01e\xc0\x09\xc0\x05", []int{0, 5, 9, 13, 17}},
		// Equal labels with other ones behind them are not the same suffix.
		{[][]string{{"a", "b"}, {"a"}, {"a", "c"}, {"a"}, {"b"}}, "\x01a\x01b\x00\x01a\x00\x01a\x01c\x00\xc0\x05\xc0\x02", []int{0, 5, 8, 13, 15}},
		// Within one name nothing is pointed to.
		{[][]string{{"a", "a", "a"}, {"a", "a"}, {"a"}, {"a", "a", "a", "a"}}, "\x01a\x01a\x01a\x00\xc0\x02\xc0\x04\x01a\xc0\x00", []int{0, 7, 9, 11}},
		// Bytes of a label that look like labels are none.
		{[][]string{{"ab", "c"}, {"b", "c"}, {"abc"}, {"bc"}}, "\x02ab\x01c\x00\x01b\xc0\x03\x03abc\x00\x02bc\x00", []int{0, 6, 10, 15}},
		{[][]string{{}, {"a"}, {}, {"A"}}, "\x00\x01a\x00\x00\xc0\x01", []int{0, 1, 4, 5}},
		{[][]string{{"A-_9~!", "@Z["}, {"@z["}, {"@z{"}}, "\x06a-_9~!\x03@z[\x00\xc0\x07\x03@z{\x00", []int{0, 12, 14}},
	} {
		b, starts, e := wire.Pack(x.names)
		if e != api.OK || string(b) != x.want || !slices.Equal(starts, x.starts) {
			t.Errorf("Pack(%q) = %q, %v, %d; want %q, %v", x.names, b, starts, e, x.want, x.starts)
		}
	}
}

// P5.2: all short lists of short names, and longer ones.
func TestPack(t *testing.T) {
	lists := words(words([]string{"a", "A", "b"}, 3), 2)
	lists = append(lists, words(words([]string{"a", "ab"}, 2), 4)...)
	number := numbers(1)
	for i := range 2000 {
		lists = append(lists, drawn(number, i%65))
	}
	for _, names := range lists {
		want, places, f := pack(names)
		b, starts, e := wire.Pack(names)
		if e != f || !bytes.Equal(b, want) || !slices.Equal(starts, places) {
			t.Fatalf("Pack(%q) = %q, %v, %d; want %q, %v, %d", names, b, starts, e, want, places, f)
		}
	}
}

// P5.2: offsets with high bits, up to the greatest that 64 names can have.
func TestPackFar(t *testing.T) {
	names := long()
	b, starts, e := wire.Pack(names)
	if e != api.OK || len(b) != 64*255 || len(starts) != 64 {
		t.Fatalf("64 names of 255 bytes: %d bytes, %v, %d", len(b), starts, e)
	}
	for i, at := range starts {
		if at != 255*i {
			t.Errorf("name %d begins at %d", i, at)
		}
	}
	for i := range 63 {
		for from := range names[i] {
			names[63] = mapped(names[i][from:], upper)
			b, starts, e := wire.Pack(names)
			to := 255*i + 64*from
			if e != api.OK || starts[63] != 63*255 || !bytes.Equal(b[63*255:], []byte{byte(192 + to>>8), byte(to)}) {
				t.Fatalf("a name that is in name %d from label %d on: %v, %d", i, from, b[63*255:], e)
			}
			if labels, after, e := wire.Get(b, 63*255); e != api.OK || after != len(b) || !slices.Equal(labels, mapped(names[63], lower)) {
				t.Fatalf("it is read as %q, %d, %d", labels, after, e)
			}
		}
	}
}

// P5.2: more than 64 names are refused, whatever they are, and 64 of them are not.
func TestPackTooMany(t *testing.T) {
	for _, one := range [][]string{nil, {"a"}, {"."}, slices.Repeat([]string{"a"}, 128)} {
		for _, n := range []int{65, 66, 128, 1000} {
			if b, starts, e := wire.Pack(slices.Repeat([][]string{one}, n)); e != api.ErrArg || len(b) != 0 || len(starts) != 0 {
				t.Errorf("Pack of %d times %q = %q, %v, %d; want ErrArg", n, one, b, starts, e)
			}
		}
	}
	for n := range 65 {
		if b, starts, e := wire.Pack(make([][]string, n)); e != api.OK || len(b) != n || len(starts) != n {
			t.Errorf("Pack of %d roots = %q, %v, %d", n, b, starts, e)
		}
	}
}

// P5.2: the error of the first name that has one, wherever it stands, beside which there is nothing.
func TestPackErrors(t *testing.T) {
	one, other := []string{"a", "a..b"}, slices.Repeat([]string{"a"}, 128)
	for _, x := range []struct {
		names [][]string
		want  api.Errno
	}{
		{[][]string{one}, api.ErrName}, {[][]string{other}, api.ErrNameTooLong}, {[][]string{one, other}, api.ErrName}, {[][]string{other, one}, api.ErrNameTooLong},
		{[][]string{{"a"}, other, {"b"}, one}, api.ErrNameTooLong}, {[][]string{{"a"}, one, {"b"}, other}, api.ErrName}, {append(make([][]string, 63), one), api.ErrName}, {append(make([][]string, 63), other), api.ErrNameTooLong},
		{[][]string{{"a"}, append([]string{""}, other...)}, api.ErrName}, {[][]string{{"a", "b"}, {"", "a", "b"}}, api.ErrName}, {[][]string{other[1:], other}, api.ErrNameTooLong},
	} {
		if b, starts, e := wire.Pack(x.names); e != x.want || len(b) != 0 || len(starts) != 0 {
			t.Errorf("Pack(%q) = %q, %v, %d; want %d", x.names, b, starts, e, x.want)
		}
	}
	for _, label := range bad {
		if b, starts, e := wire.Pack([][]string{{"a"}, {"x", label}}); e != api.ErrName || len(b) != 0 || len(starts) != 0 {
			t.Errorf("Pack with %q = %q, %v, %d; want ErrName", label, b, starts, e)
		}
	}
}

// P5.3: bytes whose names are known: the offset after a name is that after its first pointer.
func TestKnownGet(t *testing.T) {
	for _, x := range []struct {
		b     string
		at    int
		want  []string
		after int
	}{
		{packedExample, 0, []string{"www", "a", "org"}, 11}, {packedExample, 11, []string{"mail", "a", "org"}, 18}, {packedExample, 18, []string{"org"}, 20}, {packedExample, 20, nil, 21}, {packedExample, 21, []string{"a", "org"}, 23},
		{packedExample, 4, []string{"a", "org"}, 11}, {packedExample, 6, []string{"org"}, 11}, {packedExample, 10, nil, 11}, {packedExample, 16, []string{"a", "org"}, 18},
		{"\x01a\x01b\x00\x01c\xc0\x02", 5, []string{"c", "b"}, 9}, {"\x00", 0, nil, 1}, {"\x00\xff", 0, nil, 1}, {"\xff\x00", 1, nil, 2}, {"\x01A\x00\x02Bz\x00", 3, []string{"bz"}, 7}, {"\x01A\x00", 0, []string{"a"}, 3},
		{"\x06A-_9~!\x06@Z[`z{\x00", 0, []string{"a-_9~!", "@z[`z{"}, 15}, {"\x3f" + strings.Repeat("X", 63) + "\x00", 0, []string{strings.Repeat("x", 63)}, 65},
		// Pointers to the root, to a pointer, and to a name of which the last part is far ahead.
		{"\x00\xc0\x00", 1, nil, 3}, {"\x00\xc0\x00\xc0\x01\xc0\x03", 5, nil, 7}, {"\x00\x01a\xc0\x00", 1, []string{"a"}, 5}, {"\x01a\x00\xc0\x00\xc0\x03", 5, []string{"a"}, 7},
		{"\x01a\x00\x01b\xc0\x00\x01c\xc0\x03\x01d\xc0\x07\x00", 11, []string{"d", "c", "b", "a"}, 15}, {"\x01a\x00\x01b\xc0\x00\x01c\xc0\x03\x01d\xc0\x07\x00", 7, []string{"c", "b", "a"}, 11},
		// A part may begin within a label that is none, and offsets have high bits.
		{"\x03\x01b\x00\x00\xc0\x01", 5, []string{"b"}, 7},
		{strings.Repeat("\x00", 300) + "\x01a\x00\x01b\xc1\x2c", 303, []string{"b", "a"}, 307}, {strings.Repeat("\x00", 16383) + "\x00\xff\xff", 16384, nil, 16386},
	} {
		labels, after, e := wire.Get([]byte(x.b), x.at)
		if e != api.OK || after != x.after || !slices.Equal(labels, x.want) {
			t.Errorf("Get(%q, %d) = %q, %d, %d; want %q, %d", x.b, x.at, labels, after, e, x.want, x.after)
		}
	}
}

// P5.3: bytes that are no names, each with the error of the first byte at which something is wrong.
func TestGetErrors(t *testing.T) {
	longest := strings.Repeat("\x01a", 127)
	for _, x := range []struct {
		b    string
		at   int
		want api.Errno
	}{
		{"\x01", 0, api.ErrShort}, {"\x01a", 0, api.ErrShort}, {"\x02a", 0, api.ErrShort}, {"\x3fa", 0, api.ErrShort}, {"\x01a\x02b", 0, api.ErrShort}, {"\x01a\x01", 0, api.ErrShort}, {"\x02.", 0, api.ErrShort}, {"\x02a\x00", 0, api.ErrForm},
		{"\xc0", 0, api.ErrShort}, {"\xff", 0, api.ErrShort}, {"\x01a\xc0", 0, api.ErrShort}, {"\x00\xc0", 1, api.ErrShort}, {"\x01a\xff", 0, api.ErrShort}, {"\x02a\xc0\x00", 2, api.ErrForm},
		{"\x40", 0, api.ErrForm}, {"\xbf", 0, api.ErrForm}, {"\x80\x00", 0, api.ErrForm}, {"\x01a\x40", 0, api.ErrForm}, {"\x40\x00\xc0\x00", 2, api.ErrForm}, {"\x40" + strings.Repeat("a", 64) + "\x00", 0, api.ErrForm},
		// A pointer to the part that it ends, into it, behind it, and beyond all bytes.
		{"\xc0\x00", 0, api.ErrForm}, {"\x00\xc0\x01", 1, api.ErrForm}, {"\x01a\xc0\x00", 0, api.ErrForm}, {"\x00\x01a\xc0\x02", 1, api.ErrForm}, {"\x01a\xc0\x02", 0, api.ErrForm}, {"\xc0\x02\x00", 0, api.ErrForm}, {"\x01a\xc0\x04\x00", 0, api.ErrForm}, {"\xff\xff", 0, api.ErrForm}, {"\x00\xc1\x00", 1, api.ErrForm},
		// The part that a pointer ends begins where the pointer before leads, not where the name does.
		{"\x00\x01a\xc0\x01\x01b\xc0\x01", 5, api.ErrForm}, {"\x00\x01a\xc0\x03\x01b\xc0\x01", 5, api.ErrForm}, {"\x01a\xc0\x00\xc0\x00", 4, api.ErrForm}, {"\x00\xc0\x03\xc0\x01\xc0\x01", 5, api.ErrForm}, {"\xc0\x02\x00\xc0\x00", 3, api.ErrForm}, {"\x01a\xc0\x00", 2, api.ErrForm}, {"\xc0\x00\xc0\x00", 2, api.ErrForm}, {"\x01a\x01b\xc0\x00\x00", 2, api.ErrForm},
		{"\x01.\x00", 0, api.ErrForm}, {"\x01 \x00", 0, api.ErrForm}, {"\x02a\x7f", 0, api.ErrForm}, {"\x01a\x01\x80\x00", 0, api.ErrForm}, {"\x01.\x40", 0, api.ErrForm}, {"\x01.\x02", 0, api.ErrForm}, {"\x01\x00\x00\xc0\x00", 3, api.ErrForm},
		{longest + "\x01a\x00", 0, api.ErrNameTooLong}, {longest + "\x01a", 0, api.ErrNameTooLong}, {longest + "\x01a\x40", 0, api.ErrNameTooLong}, {longest + "\x01a\xff", 0, api.ErrNameTooLong}, {longest + "\x01.", 0, api.ErrForm}, {longest + "\x01", 0, api.ErrShort}, {longest + "\x40", 0, api.ErrForm}, {longest + "\x05aa", 0, api.ErrShort},
		{longest, 0, api.ErrShort}, {longest + "\xc0", 0, api.ErrShort}, {longest + "\xc0\x00", 0, api.ErrForm}, {longest[2:] + "\x02ab\x00", 0, api.ErrNameTooLong}, {longest[2:] + "\x02a.\x00", 0, api.ErrForm},
		{longest + "\x00\x01b\xc0\x00", 255, api.ErrNameTooLong}, {longest + "\x00\x02b.\xc0\x00", 255, api.ErrForm}, {"\x01.\x00" + longest + "\xc0\x00", 3, api.ErrForm}, {"\x40" + longest + "\xc0\x00", 1, api.ErrForm}, {"\x01a\x40" + longest + "\xc0\x00", 3, api.ErrNameTooLong},
	} {
		if labels, after, e := wire.Get([]byte(x.b), x.at); e != x.want || after != 0 || len(labels) != 0 {
			t.Errorf("Get(%q, %d) = %q, %d, %d; want error %d", x.b, x.at, labels, after, e, x.want)
		}
	}
}

// P5.3: offsets at which there is no byte.
func TestGetOffsets(t *testing.T) {
	for n := range 5 {
		b := make([]byte, n, 8)
		for _, at := range []int{-1, -2, -n, math.MinInt, math.MinInt + 1, n, n + 1, 7, 8, math.MaxInt - 1, math.MaxInt} {
			if at >= 0 && at < n {
				continue
			}
			if labels, after, e := wire.Get(b, at); e != api.ErrArg || after != 0 || len(labels) != 0 {
				t.Errorf("Get of %d bytes at %d = %q, %d, %d; want ErrArg", n, at, labels, after, e)
			}
		}
	}
	if labels, after, e := wire.Get(nil, 0); e != api.ErrArg || after != 0 || len(labels) != 0 {
		t.Errorf("Get(nil, 0) = %q, %d, %d; want ErrArg", labels, after, e)
	}
	for _, b := range []string{packedExample, "\x40", "\x01"} {
		for _, at := range []int{-1, len(b), math.MinInt, math.MaxInt} {
			if labels, after, e := wire.Get([]byte(b), at); e != api.ErrArg || after != 0 || len(labels) != 0 {
				t.Errorf("Get(%q, %d) = %q, %d, %d; want ErrArg", b, at, labels, after, e)
			}
		}
	}
}

// P5.3: each byte as a length, as a pointer's half, and in a label, at the beginning of a name, within it and behind a pointer.
func TestGetEachByte(t *testing.T) {
	for c := range 256 {
		b := string([]byte{byte(c)})
		for _, s := range []string{b, b + "\x00", b + strings.Repeat("a", 63) + "\x00", b + strings.Repeat("a", 300), "\x01" + b + "\x00", "\x02A" + b + "\x00", "\x03" + b + "ab\x00", "\x01a" + b + "\x01c\x00", "\x00\xc0" + b, "\x00" + b + "\x00", "\x00\x01a" + b + "\x00\x00\x00"} {
			for at := range len(s) {
				compareGet(t, []byte(s), at)
			}
			compareGet(t, []byte(s+"\xc0\x00"), len(s))
		}
	}
}

// compareGet fails where Get answers something else than what P5.3 has it answer, word by word.
func compareGet(t *testing.T, b []byte, at int) {
	t.Helper()
	want, next, f := get(b, at)
	if labels, after, e := wire.Get(b, at); e != f || after != next || !slices.Equal(labels, want) {
		t.Fatalf("Get(%q, %d) = %q, %d, %d; want %q, %d, %d", b, at, labels, after, e, want, next, f)
	}
}

// compareAll fails where All answers something else than what P5.4 has it answer, word by word.
func compareAll(t *testing.T, b []byte) {
	t.Helper()
	want, f := all(b)
	if names, e := wire.All(b); e != f || !same(names, want) {
		t.Fatalf("All(%q) = %q, %d; want %q, %d", b, names, e, want, f)
	}
}

// P5.3, P5.4: all short rows of some bytes.
func TestShortBytes(t *testing.T) {
	for _, b := range words([]byte{0, 1, 2, 3, 4, 'a', 'B', '.', 0x40, 0xbf, 0xc0, 0xc1}, 5) {
		for at := -1; at <= len(b); at++ {
			compareGet(t, b, at)
		}
		compareAll(t, b)
	}
	for _, b := range words([]byte{0, 1, 2, 'a', 0xc0}, 7) {
		for at := range b {
			compareGet(t, b, at)
		}
		compareAll(t, b)
	}
}

// P5.3, P5.4: rows of which one byte after the other is another one.
func TestChangedBytes(t *testing.T) {
	number := numbers(2)
	for range 300 {
		b, _, _ := pack(drawn(number, 12))
		for at := range b {
			kept := b[at]
			b[at] = []byte{0, 1, 2, 63, 64, 191, 192, 193, 255, '.', 'A', byte(number(256))}[number(12)]
			compareAll(t, b)
			compareGet(t, b, number(len(b)))
			b[at] = kept
		}
	}
}

// P5.3: labels at the end of a name's length, in one part and in several.
func TestGetLongest(t *testing.T) {
	for n := 3; n < 520; n++ {
		for _, labels := range [][]string{sized("a", n), sized("Q", n)} {
			var b []byte
			for _, label := range labels {
				b = append(append(b, byte(len(label))), label...)
			}
			b = append(b, 0)
			compareGet(t, b, 0)
			if _, _, e := wire.Get(b, 0); e != map[bool]api.Errno{true: api.OK, false: api.ErrNameTooLong}[n <= 255] {
				t.Errorf("a name of %d bytes: %d", n, e)
			}
			for _, more := range []string{"", "\x01b", "\x02bc", "\x02bcx"} {
				b := append(slices.Clone(b), more+"\xc0\x00"...)
				compareGet(t, b, size(labels))
			}
		}
	}
}

// P5.3: a label at a time, each a part of its own, till there are too many; and pointers to pointers, of which there may be any number.
func TestGetManyParts(t *testing.T) {
	b := []byte{0}
	last := 0
	for n := 1; n <= 200; n++ {
		at := len(b)
		b = append(b, 1, 'A', byte(192+last>>8), byte(last))
		last = at
		labels, after, e := wire.Get(b, at)
		if n <= 127 && (e != api.OK || after != len(b) || !slices.Equal(labels, slices.Repeat([]string{"a"}, n))) {
			t.Fatalf("%d parts are read as %q, %d, %d", n, labels, after, e)
		}
		if n > 127 && (e != api.ErrNameTooLong || after != 0 || len(labels) != 0) {
			t.Fatalf("%d parts are read as %q, %d, %d", n, labels, after, e)
		}
	}
	b, last = []byte("\x01a\x00"), 0
	for len(b) < 16384 {
		at := len(b)
		b = append(b, byte(192+last>>8), byte(last))
		last = at
	}
	if labels, after, e := wire.Get(b, last); e != api.OK || after != len(b) || !slices.Equal(labels, []string{"a"}) {
		t.Errorf("a row of pointers is read as %q, %d, %d", labels, after, e)
	}
	if names, e := wire.All(b); e != api.OK || len(names) != (len(b)-1)/2 {
		t.Errorf("in a row of pointers are %d names, %d", len(names), e)
	}
}

// P5.4: bytes of which the names are known, and bytes with the error of the first name that has one.
func TestKnownAll(t *testing.T) {
	for _, x := range []struct {
		b    string
		want [][]string
		e    api.Errno
	}{
		{"", nil, api.OK}, {"\x00", [][]string{nil}, api.OK}, {"\x00\x00\x00", [][]string{nil, nil, nil}, api.OK},
		{packedExample, [][]string{{"www", "a", "org"}, {"mail", "a", "org"}, {"org"}, nil, {"a", "org"}}, api.OK},
		{"\x01a\x01b\x00\x01c\xc0\x02", [][]string{{"a", "b"}, {"c", "b"}}, api.OK}, {"\x01A\x00\xc0\x00\x00", [][]string{{"a"}, {"a"}, nil}, api.OK},
		{"\x01a\x00\x01", nil, api.ErrShort}, {"\x01a", nil, api.ErrShort}, {"\x00\xc0", nil, api.ErrShort}, {"\x01a\x00\x40", nil, api.ErrForm}, {"\xc0\x00", nil, api.ErrForm}, {"\x00\xc0\x01", nil, api.ErrForm},
		{"\x00" + strings.Repeat("\x01a", 128) + "\x00", nil, api.ErrNameTooLong}, {"\x01.\x00\x01", nil, api.ErrForm}, {"\x00\x01a\x40\x01", nil, api.ErrForm}, {"\x00\x02a", nil, api.ErrShort},
		{strings.Repeat("\x01a", 128) + "\x40", nil, api.ErrNameTooLong}, {"\x00\x40" + strings.Repeat("\x01a", 128), nil, api.ErrForm}, {packedExample + "\xff", nil, api.ErrShort}, {packedExample + "\x80", nil, api.ErrForm},
	} {
		if names, e := wire.All([]byte(x.b)); e != x.e || !same(names, x.want) {
			t.Errorf("All(%q) = %q, %d; want %q, %d", x.b, names, e, x.want, x.e)
		}
	}
	if names, e := wire.All(nil); e != api.OK || len(names) != 0 {
		t.Errorf("All(nil) = %q, %d", names, e)
	}
}

// P5.5: what is packed is read again, all at once and each name where it begins, and none is longer than without pointers.
func TestPackedIsRead(t *testing.T) {
	number := numbers(3)
	lists := append(words(words([]string{"a", "B"}, 2), 3), long())
	for i := range 500 {
		lists = append(lists, drawn(number, i%65))
	}
	for _, names := range lists {
		var want [][]string
		for _, labels := range names {
			want = append(want, mapped(labels, lower))
		}
		b, starts, e := wire.Pack(names)
		if e != api.OK || len(starts) != len(names) {
			t.Fatalf("Pack(%q) = %q, %v, %d", names, b, starts, e)
		}
		if got, e := wire.All(b); e != api.OK || !same(got, want) {
			t.Fatalf("%q are read as %q, %d", names, got, e)
		}
		ends := append(slices.Clone(starts), len(b))
		for i, labels := range names {
			if got, after, e := wire.Get(b, starts[i]); e != api.OK || after != ends[i+1] || !slices.Equal(got, want[i]) {
				t.Fatalf("name %d of %q is read as %q, %d, %d", i, names, got, after, e)
			}
			if plain, e := wire.Put(labels); e != api.OK || ends[i+1]-ends[i] > len(plain) {
				t.Fatalf("name %d of %q has %d bytes, and %d without pointers", i, names, ends[i+1]-ends[i], len(plain))
			}
		}
	}
}

// P5.5: what Put answers is read as the name, and is not without its end.
func TestCutShort(t *testing.T) {
	for _, labels := range append(words([]string{"a", "B", "cde"}, 4), sized("x", 255), slices.Repeat([]string{"y"}, 127), []string{strings.Repeat("Z", 63)}) {
		b, e := wire.Put(labels)
		if e != api.OK {
			t.Fatalf("Put(%q): %d", labels, e)
		}
		if got, after, e := wire.Get(b, 0); e != api.OK || after != len(b) || !slices.Equal(got, mapped(labels, lower)) {
			t.Errorf("%q is read as %q, %d, %d", labels, got, after, e)
		}
		for n := 1; n < len(b); n++ {
			if got, after, e := wire.Get(b[:n], 0); e != api.ErrShort || after != 0 || len(got) != 0 {
				t.Errorf("%q, cut to %d bytes, is read as %q, %d, %d", labels, n, got, after, e)
			}
			if got, e := wire.All(b[:n]); e != api.ErrShort || len(got) != 0 {
				t.Errorf("%q, cut to %d bytes, are %q, %d", labels, n, got, e)
			}
		}
	}
}

// P5.5: packed names that are cut within one of them are not read, and cut between two of them those ahead are.
func TestPackedCutShort(t *testing.T) {
	number := numbers(4)
	for i := range 50 {
		b, starts, _ := wire.Pack(drawn(number, i))
		whole, e := wire.All(b)
		if e != api.OK {
			t.Fatal(e)
		}
		for n := range b {
			got, e := wire.All(b[:n])
			if k := slices.Index(starts, n); k >= 0 {
				if e != api.OK || !same(got, whole[:k]) {
					t.Errorf("%q, cut to %d bytes, are %q, %d", whole, n, got, e)
				}
			} else if e != api.ErrShort || len(got) != 0 {
				t.Errorf("%q, cut to %d bytes, are %q, %d; want ErrShort", whole, n, got, e)
			}
		}
	}
}

// R3, R7: arguments are not changed, and neither count the bytes and labels behind a slice's end.
func TestArguments(t *testing.T) {
	behind := [][]string{{"WWW", "A", "more"}, {"Mail", "a"}, nil, {"."}}
	names := [][]string{behind[0][:2], behind[1], behind[2]}
	b, starts, e := wire.Pack(names[:3:3])
	if e != api.OK || string(b) != "\x03www\x01a\x00\x04mail\xc0\x04\x00" || !slices.Equal(starts, []int{0, 7, 14}) {
		t.Errorf("Pack(%q) = %q, %v, %d", names, b, starts, e)
	}
	if b, starts, e := wire.Pack(behind[:3][1:]); e != api.OK || string(b) != "\x04mail\x01a\x00\x00" || !slices.Equal(starts, []int{0, 8}) {
		t.Errorf("Pack(%q) = %q, %v, %d", behind[1:3], b, starts, e)
	}
	if b, e := wire.Put(behind[0][:2]); e != api.OK || string(b) != "\x03www\x01a\x00" {
		t.Errorf("Put(%q) = %q, %d", behind[0][:2], b, e)
	}
	if !same(behind, [][]string{{"WWW", "A", "more"}, {"Mail", "a"}, nil, {"."}}) {
		t.Errorf("the names are changed: %q", behind)
	}
	given := []byte("\x01A\x00\x02BC\xc0\x00\x02x")
	kept := slices.Clone(given)
	// What has room behind its end is read as what has none.
	for n := range given {
		for at := range given {
			compareGet(t, given[:n], at)
		}
		compareAll(t, given[:n])
	}
	if !bytes.Equal(given, kept) {
		t.Errorf("the bytes are changed: %q", given)
	}
}

// R3, R4: answers are new memory, which nothing else has, and hang on the arguments alone.
func TestAnswersAreNew(t *testing.T) {
	names := [][]string{{"www", "a"}, {"mail", "a"}, {"a"}}
	b, starts, _ := wire.Pack(names)
	plain, _ := wire.Put(names[0])
	labels, _, _ := wire.Get(b, 0)
	read, _ := wire.All(b)
	kept, keptStarts, keptPlain := slices.Clone(b), slices.Clone(starts), slices.Clone(plain)
	clear(plain)
	clear(labels)
	clear(read[0])
	_ = append(read[0][:0], "x", "y", "z")
	_ = append(read[1], "z")
	if !same(read[1:], [][]string{{"mail", "a"}, {"a"}}) || !bytes.Equal(b, kept) {
		t.Errorf("names share memory: %q, %q", read, b)
	}
	clear(b)
	clear(starts)
	if !same(read[1:], [][]string{{"mail", "a"}, {"a"}}) {
		t.Errorf("names share memory with their bytes: %q", read)
	}
	if again, more, e := wire.Pack(names); e != api.OK || !bytes.Equal(again, kept) || !slices.Equal(more, keptStarts) {
		t.Errorf("after a change: %q, %v, %d", again, more, e)
	}
	if again, e := wire.Put(names[0]); e != api.OK || !bytes.Equal(again, keptPlain) {
		t.Errorf("after a change: %q, %d", again, e)
	}
	if !same(names, [][]string{{"www", "a"}, {"mail", "a"}, {"a"}}) {
		t.Errorf("the names are changed: %q", names)
	}
}
