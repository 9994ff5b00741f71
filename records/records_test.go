package records_test

import (
	"bytes"
	"slices"
	"strings"
	"testing"

	"columbarium/api"
	"columbarium/records"
)

// packedExample is what "one", "" and "three" are packed as.
const packedExample = "\x03\x00\x03\x00\x03\x00\x08\x00onethree"

// texts answers records of texts.
func texts(all ...string) [][]byte {
	l := [][]byte{}
	for _, s := range all {
		l = append(l, []byte(s))
	}
	return l
}

// counted answers a record of n bytes, those next to each other apart from each other.
func counted(from int, n int) []byte {
	b := make([]byte, n)
	for i := range b {
		b[i] = byte((from + i) % 251)
	}
	return b
}

// filled answers n records that are packed as size bytes: all empty but one.
func filled(n int, long int, size int) [][]byte {
	l := make([][]byte, n)
	l[long] = counted(n, size-2-2*n)
	return l
}

// numbers answers a function that answers numbers below n, the same ones at each start.
func numbers(seed uint32) func(n int) int {
	return func(n int) int {
		seed = seed*1664525 + 1013904223
		return int(seed>>8) % n
	}
}

// drawn answers a record set, small enough to be packed or not quite.
func drawn(number func(n int) int) [][]byte {
	l := [][]byte{}
	most := []int{2, 20, 60, 480}[number(4)]
	for range number(18) {
		l = append(l, counted(number(256), number(most)))
	}
	return l
}

// size answers word by word what P6.1 has Size answer.
func size(l [][]byte) (int, api.Errno) {
	if len(l) == 0 || len(l) > 16 {
		return 0, api.ErrArg
	}
	n := 2
	for _, record := range l {
		n++
		n++
		for range record {
			n++
		}
	}
	if n > 480 {
		return 0, api.ErrTooBig
	}
	return n, api.OK
}

// pack answers word by word what P6.2 has Pack answer.
func pack(l [][]byte) (string, api.Errno) {
	if _, e := size(l); e != api.OK {
		return "", e
	}
	var ends, whole strings.Builder
	for _, record := range l {
		whole.Write(record)
		ends.WriteByte(byte(whole.Len() % 256))
		ends.WriteByte(byte(whole.Len() / 256))
	}
	return string([]byte{byte(len(l)), 0}) + ends.String() + whole.String(), api.OK
}

// unpack answers word by word what P6.3 has Unpack answer, an error's condition after the other.
func unpack(b []byte) ([]string, api.Errno) {
	if len(b) < 2 {
		return nil, api.ErrShort
	}
	if b[0] == 0 || b[0] > 16 || b[1] != 0 {
		return nil, api.ErrForm
	}
	n := int(b[0])
	if len(b) < 2+n+n {
		return nil, api.ErrShort
	}
	var ends []int
	for i := 2; i < 2+n+n; i += 2 {
		ends = append(ends, int(b[i])+256*int(b[i+1]))
	}
	for i := 1; i < n; i++ {
		if ends[i] < ends[i-1] {
			return nil, api.ErrForm
		}
	}
	rest := string(b[2+n+n:])
	if ends[n-1] > len(rest) {
		return nil, api.ErrShort
	}
	if ends[n-1] != len(rest) || len(b) > 480 {
		return nil, api.ErrForm
	}
	var l []string
	for i, end := range ends {
		start := 0
		if i > 0 {
			start = ends[i-1]
		}
		l = append(l, rest[start:end])
	}
	return l, api.OK
}

// equal tells whether records are these texts.
func equal(l [][]byte, want []string) bool {
	return slices.EqualFunc(l, want, func(record []byte, text string) bool { return string(record) == text })
}

// checkUnpack holds what Unpack answers against the chapter's words.
func checkUnpack(t *testing.T, b []byte) {
	t.Helper()
	want, f := unpack(b)
	if l, e := records.Unpack(b); e != f || !equal(l, want) {
		t.Fatalf("Unpack(%q) = %q, %d; want %q, %d", b, l, e, want, f)
	}
}

// setSamples answers record sets and what are none, at the edges that the chapter names.
func setSamples() [][][]byte {
	sets := [][][]byte{nil, {}, {nil}, {{}}, {nil, {}, nil}, texts("one", "", "three"), texts("ab", ""), texts("", "ab"), texts("\x00", "\xff\x00"), texts("same", "same", "Same")}
	for n := 1; n < 20; n++ {
		sets = append(sets, make([][]byte, n), slices.Repeat(texts("x"), n))
		for _, size := range []int{2 + 2*n, 3 + 2*n, 255, 256, 257, 258, 259, 479, 480, 481, 482, 1000, 70000} {
			sets = append(sets, filled(n, 0, size), filled(n, n-1, size), filled(n, n/2, size))
		}
	}
	number := numbers(6)
	for range 500 {
		sets = append(sets, drawn(number))
	}
	return sets
}

// P6.1: each number of records and each length of one record.
func TestSize(t *testing.T) {
	for n := range 40 {
		if n == 0 || n > 16 {
			if s, e := records.Size(make([][]byte, n)); s != 0 || e != api.ErrArg {
				t.Errorf("Size of %d empty records = %d, %d; want 0, ErrArg", n, s, e)
			}
			continue
		}
		for k := range 600 {
			want, f := 2+2*n+k, api.OK
			if want > 480 {
				want, f = 0, api.ErrTooBig
			}
			for long := range n {
				l := make([][]byte, n)
				l[long] = make([]byte, k)
				if s, e := records.Size(l); s != want || e != f {
					t.Fatalf("Size of %d records, number %d of %d bytes = %d, %d; want %d, %d", n, long, k, s, e, want, f)
				}
			}
		}
	}
}

// P6.1: sizes that are known, the greatest ones and the first ones beyond them.
func TestKnownSize(t *testing.T) {
	for _, x := range []struct {
		lengths []int
		want    int
		e       api.Errno
	}{
		{nil, 0, api.ErrArg}, {[]int{0}, 4, api.OK}, {[]int{1}, 5, api.OK}, {[]int{3, 0, 5}, 16, api.OK}, {[]int{2, 0}, 8, api.OK},
		{[]int{475}, 479, api.OK}, {[]int{476}, 480, api.OK}, {[]int{477}, 0, api.ErrTooBig}, {[]int{478}, 0, api.ErrTooBig}, {[]int{479}, 0, api.ErrTooBig}, {[]int{480}, 0, api.ErrTooBig}, {[]int{481}, 0, api.ErrTooBig},
		{[]int{400, 74}, 480, api.OK}, {[]int{400, 75}, 0, api.ErrTooBig}, {[]int{0, 474}, 480, api.OK}, {[]int{475, 0}, 0, api.ErrTooBig},
		{slices.Repeat([]int{0}, 16), 34, api.OK}, {slices.Repeat([]int{27}, 16), 466, api.OK}, {slices.Repeat([]int{28}, 16), 0, api.ErrTooBig}, {append(slices.Repeat([]int{0}, 15), 446), 480, api.OK}, {append(slices.Repeat([]int{0}, 15), 447), 0, api.ErrTooBig},
		{slices.Repeat([]int{0}, 17), 0, api.ErrArg}, {slices.Repeat([]int{1000}, 17), 0, api.ErrArg}, {slices.Repeat([]int{0}, 256), 0, api.ErrArg}, {slices.Repeat([]int{0}, 257), 0, api.ErrArg}, {slices.Repeat([]int{0}, 65537), 0, api.ErrArg},
		{[]int{65536}, 0, api.ErrTooBig}, {[]int{65536 + 4}, 0, api.ErrTooBig}, {[]int{1 << 20, 1 << 20}, 0, api.ErrTooBig},
	} {
		var l [][]byte
		for _, n := range x.lengths {
			l = append(l, make([]byte, n))
		}
		if s, e := records.Size(l); s != x.want || e != x.e {
			t.Errorf("Size of %d records, lengths %v = %d, %d; want %d, %d", len(l), x.lengths, s, e, x.want, x.e)
		}
		if b, e := records.Pack(l); len(b) != x.want || e != x.e {
			t.Errorf("Pack of %d records, lengths %v = %q, %d; want %d bytes, %d", len(l), x.lengths, b, e, x.want, x.e)
		}
	}
}

// P6.2: record sets whose bytes are known.
func TestKnownPack(t *testing.T) {
	long := string(counted(1, 300))
	for _, x := range []struct {
		l    [][]byte
		want string
	}{
		{texts("one", "", "three"), packedExample}, {texts("ab", ""), "\x02\x00\x02\x00\x02\x00ab"}, {texts("", "ab"), "\x02\x00\x00\x00\x02\x00ab"},
		{texts(""), "\x01\x00\x00\x00"}, {[][]byte{nil}, "\x01\x00\x00\x00"}, {[][]byte{nil, nil}, "\x02\x00\x00\x00\x00\x00"}, {texts("x"), "\x01\x00\x01\x00x"}, {texts("\x00\xff", "\x00"), "\x02\x00\x02\x00\x03\x00\x00\xff\x00"},
		{texts(long[:255]), "\x01\x00\xff\x00" + long[:255]}, {texts(long[:256]), "\x01\x00\x00\x01" + long[:256]}, {texts(long[:257]), "\x01\x00\x01\x01" + long[:257]},
		{texts("a", long, "bc"), "\x03\x00\x01\x00\x2d\x01\x2f\x01a" + long + "bc"}, {texts(long[:200], long[:200]), "\x02\x00\xc8\x00\x90\x01" + long[:200] + long[:200]},
		{slices.Repeat(texts("z"), 16), "\x10\x00\x01\x00\x02\x00\x03\x00\x04\x00\x05\x00\x06\x00\x07\x00\x08\x00\x09\x00\x0a\x00\x0b\x00\x0c\x00\x0d\x00\x0e\x00\x0f\x00\x10\x00zzzzzzzzzzzzzzzz"},
	} {
		if b, e := records.Pack(x.l); e != api.OK || string(b) != x.want {
			t.Errorf("Pack(%q) = %q, %d; want %q", x.l, b, e, x.want)
		}
	}
}

// P6.1, P6.2, P6.4: many record sets and what are none, and that Pack has Size's number of bytes, and its errors.
func TestPack(t *testing.T) {
	for _, l := range setSamples() {
		n, f := size(l)
		if s, e := records.Size(l); s != n || e != f {
			t.Errorf("Size(%q) = %d, %d; want %d, %d", l, s, e, n, f)
		}
		want, f := pack(l)
		b, e := records.Pack(l)
		if e != f || string(b) != want {
			t.Errorf("Pack(%q) = %q, %d; want %q, %d", l, b, e, want, f)
		}
		if len(b) != n {
			t.Errorf("Pack(%q) has %d bytes; want %d", l, len(b), n)
		}
	}
}

// P6.3: bytes whose records or whose error are known.
func TestKnownUnpack(t *testing.T) {
	long := string(counted(7, 476))
	for _, x := range []struct {
		b    string
		want []string
		e    api.Errno
	}{
		{packedExample, []string{"one", "", "three"}, api.OK}, {"\x02\x00\x02\x00\x02\x00ab", []string{"ab", ""}, api.OK}, {"\x01\x00\x00\x00", []string{""}, api.OK}, {"\x01\x00\x02\x00\x00\xff", []string{"\x00\xff"}, api.OK},
		{"\x01\x00\xdc\x01" + long, []string{long}, api.OK}, {"\x02\x00\x00\x01\x01\x01" + long[:257], []string{long[:256], long[256:257]}, api.OK}, {"\x10\x00" + strings.Repeat("\x00", 32), slices.Repeat([]string{""}, 16), api.OK},
		// Fewer than 2 bytes.
		{"", nil, api.ErrShort}, {"\x01", nil, api.ErrShort}, {"\x00", nil, api.ErrShort}, {"\xff", nil, api.ErrShort},
		// The first two bytes, ahead of all that is missing behind them.
		{"\x00\x00", nil, api.ErrForm}, {"\x11\x00", nil, api.ErrForm}, {"\xff\x00", nil, api.ErrForm}, {"\x01\x01", nil, api.ErrForm}, {"\x01\x80", nil, api.ErrForm}, {"\x01\xff\x00\x00", nil, api.ErrForm},
		{"\x00\x00\x00\x00", nil, api.ErrForm}, {"\x11\x00" + strings.Repeat("\x00", 34), nil, api.ErrForm}, {"\x00\x01\x00\x00", nil, api.ErrForm},
		// Fewer bytes than the ends need, ahead of ends that fall.
		{"\x01\x00", nil, api.ErrShort}, {"\x01\x00\x00", nil, api.ErrShort}, {"\x10\x00", nil, api.ErrShort}, {"\x10\x00" + strings.Repeat("\x00", 31), nil, api.ErrShort}, {"\x03\x00\x02\x00\x01\x00", nil, api.ErrShort}, {"\x03\x00\x02\x00\x01\x00\x00", nil, api.ErrShort},
		// An end that is less than the one before it, ahead of a last end that is beyond the bytes.
		{"\x02\x00\x02\x00\x01\x00ab", nil, api.ErrForm}, {"\x02\x00\x02\x00\x01\x00a", nil, api.ErrForm}, {"\x02\x00\x02\x00\x01\x00", nil, api.ErrForm}, {"\x03\x00\x02\x00\x01\x00\x02\x00ab", nil, api.ErrForm}, {"\x02\x00\x00\x01\xff\x00", nil, api.ErrForm}, {"\x03\x00\x02\x00\x01\x00\xff\xff", nil, api.ErrForm}, {"\x02\x00\xff\xff\x00\x00", nil, api.ErrForm},
		// A last end that is beyond the bytes, ahead of a size that is too great.
		{"\x01\x00\x01\x00", nil, api.ErrShort}, {"\x01\x00\xff\xff", nil, api.ErrShort}, {"\x01\x00\x00\x80", nil, api.ErrShort}, {"\x01\x00\x00\x01\x00\x00", nil, api.ErrShort}, {"\x02\x00\x09\x00\x09\x00ab", nil, api.ErrShort}, {"\x01\x00\x00\x02" + long, nil, api.ErrShort}, {"\x01\x00\x00\x02" + long + long[:35], nil, api.ErrShort},
		// Bytes that follow it, or more than 480 in all.
		{"\x01\x00\x00\x00a", nil, api.ErrForm}, {packedExample + "\x00", nil, api.ErrForm}, {"\x02\x00\x01\x00\x01\x00ab", nil, api.ErrForm}, {"\x01\x00\xdc\x01" + long + "x", nil, api.ErrForm}, {"\x01\x00\xdd\x01" + long + "x", nil, api.ErrForm}, {"\x01\x00\x00\x02" + long + long[:36], nil, api.ErrForm}, {"\x01\x00\x00\x00" + strings.Repeat("\x00", 65536), nil, api.ErrForm},
	} {
		if l, e := records.Unpack([]byte(x.b)); e != x.e || !equal(l, x.want) {
			t.Errorf("Unpack(%q) = %q, %d; want %q, %d", x.b, l, e, x.want, x.e)
		}
	}
}

// P6.3: all short rows of some bytes.
func TestUnpackShortRows(t *testing.T) {
	of := []byte{0, 1, 2, 3, 17, 255}
	rows := [][]byte{nil}
	for range 8 {
		var longer [][]byte
		for _, row := range rows {
			checkUnpack(t, row)
			// What the first two bytes rule out needs no more of them.
			if len(row) == 3 && (row[0] == 0 || row[0] > 16 || row[1] != 0) {
				continue
			}
			for _, c := range of {
				longer = append(longer, append(slices.Clone(row), c))
			}
		}
		rows = longer
	}
	for c := range 256 {
		for d := range 256 {
			for _, more := range []int{0, 1, 2, 31, 32, 33, 300, 600} {
				checkUnpack(t, append([]byte{byte(c), byte(d)}, make([]byte, more)...))
			}
		}
	}
}

// P6.3: encodings in which one byte is another one, or that are cut or have more bytes.
func TestUnpackChangedBytes(t *testing.T) {
	for _, l := range [][][]byte{texts("one", "", "three"), texts("ab", ""), texts(""), {counted(0, 256)}, filled(16, 0, 480), filled(16, 15, 480), filled(1, 0, 480), filled(2, 1, 300), slices.Repeat(texts("\x03\x00"), 16), slices.Repeat(texts("twenty-seven bytes a record"), 16)} {
		whole, e := records.Pack(l)
		if e != api.OK {
			t.Fatalf("Pack(%q): %d", l, e)
		}
		for i := range whole {
			if _, e := records.Unpack(whole[:i]); e != api.ErrShort {
				t.Errorf("Unpack of %d bytes of %q: %d; want ErrShort", i, whole, e)
			}
			for c := range 256 {
				b := bytes.Clone(whole)
				b[i] = byte(c)
				checkUnpack(t, b)
			}
		}
		for n := 1; n < 10; n++ {
			if l, e := records.Unpack(append(bytes.Clone(whole), make([]byte, n)...)); e != api.ErrForm || len(l) != 0 {
				t.Errorf("Unpack of %q and %d bytes = %q, %d; want ErrForm", whole, n, l, e)
			}
		}
	}
}

// P6.3: encodings of which all is right but the size, at both sides of the greatest one.
func TestUnpackSizes(t *testing.T) {
	for n := 1; n <= 16; n++ {
		for size := 2 + 2*n; size < 600; size++ {
			end := size - 2 - 2*n
			b := append([]byte{byte(n), 0}, bytes.Repeat([]byte{byte(end % 256), byte(end / 256)}, n)...)
			b = append(b, counted(3, end)...)
			checkUnpack(t, b)
			if _, e := records.Unpack(b); (e == api.OK) != (size <= 480) {
				t.Errorf("Unpack of %d records of %d bytes: %d", n, size, e)
			}
		}
	}
}

// P6.3: sets that are the same, and sets of another number or with another byte.
func TestSame(t *testing.T) {
	apart := [][][]byte{nil, texts(""), texts("", ""), texts("a"), texts("A"), texts("a", ""), texts("", "a"), texts("a", "b"), texts("b", "a"), texts("ab"), texts("ab", ""), texts("", "ab"), texts("a", "b", ""), texts("a", "", "b"), texts("ab\x00"), texts("\x00"), texts("\x00", ""), texts("a\x80"), texts("a\xff"), make([][]byte, 16), make([][]byte, 17), make([][]byte, 300), {make([]byte, 481)}, {make([]byte, 482)}}
	for i, a := range apart {
		for k, b := range apart {
			if same := records.Same(a, b); same != (i == k) {
				t.Errorf("Same(%q, %q) = %t", a, b, same)
			}
			if same := records.Same(a, records.Clone(b)); same != (i == k) {
				t.Errorf("Same(%q, a clone of %q) = %t", a, b, same)
			}
		}
	}
	for _, x := range []struct{ a, b [][]byte }{{nil, [][]byte{}}, {[][]byte{}, nil}, {[][]byte{nil}, [][]byte{{}}}, {[][]byte{{}, nil, {1}}, [][]byte{nil, {}, {1}}}} {
		if !records.Same(x.a, x.b) {
			t.Errorf("Same(%v, %v): nothing is nothing", x.a, x.b)
		}
	}
}

// P6.3: each byte of each record counts.
func TestSameOtherByte(t *testing.T) {
	a := [][]byte{counted(0, 20), nil, counted(5, 300), {7}}
	for i, record := range a {
		for k := range record {
			b := records.Clone(a)
			b[i][k] ^= 1
			if records.Same(a, b) || records.Same(b, a) {
				t.Errorf("Same although byte %d of record %d is another one", k, i)
			}
		}
	}
}

// P6.3: a clone has the same records, of any number and any length.
func TestClone(t *testing.T) {
	all := append(setSamples(), make([][]byte, 1000), [][]byte{make([]byte, 100000)}, slices.Repeat([][]byte{counted(0, 481)}, 40))
	for _, l := range all {
		c := records.Clone(l)
		if len(c) != len(l) {
			t.Fatalf("Clone of %d records has %d", len(l), len(c))
		}
		for i := range l {
			if !bytes.Equal(c[i], l[i]) {
				t.Errorf("record %d of Clone(%q) is %q", i, l, c[i])
			}
		}
	}
}

// overwrite sets all bytes of records that have room for them, those behind their length too.
func overwrite(l [][]byte, to byte) {
	for _, record := range l {
		whole := record[:cap(record)]
		for i := range whole {
			whole[i] = to
		}
	}
}

// P6.3: a clone shares no memory with what it was made of, nor its records with each other.
func TestCloneIsNewMemory(t *testing.T) {
	shared := []byte("abcdef")
	l := [][]byte{shared, shared, shared[1:3], shared[2:2], nil}
	want := []string{"abcdef", "abcdef", "bc", "", ""}
	c, d := records.Clone(l), records.Clone(l)
	overwrite(c, '#')
	c[0], c[4] = nil, []byte("x")
	if !equal(l, want) || string(shared) != "abcdef" {
		t.Errorf("what was written into a clone is in its original: %q", l)
	}
	overwrite(l, '*')
	l[0], l[4] = nil, []byte("y")
	if !equal(d, want) {
		t.Errorf("what was written into the original is in its clone: %q", d)
	}
	apart(t, d, want)
}

// apart tells whether what is written into and behind a record is in no other one.
func apart(t *testing.T, l [][]byte, want []string) {
	t.Helper()
	for i := range l {
		overwrite(l[i:i+1], '!')
		_ = append(l[i], "more of it"...)
		if !equal(l[i+1:], want[i+1:]) {
			t.Errorf("what was written into record %d is in one behind it: %q", i, l)
		}
	}
	for i := len(l) - 1; i >= 0; i-- {
		overwrite(l[i:i+1], '?')
		for k, record := range l[:i] {
			if !bytes.Equal(record, bytes.Repeat([]byte("!"), len(record))) {
				t.Errorf("what was written into record %d is in record %d: %q", i, k, l)
			}
		}
	}
}

// P6.3: what Unpack answers is memory of its own, a record for itself.
func TestUnpackIsNewMemory(t *testing.T) {
	want := []string{"one", "", "three"}
	b := append(make([]byte, 0, 100), packedExample...)
	l, _ := records.Unpack(b)
	m, _ := records.Unpack(b)
	overwrite(l, '#')
	l[1] = []byte("x")
	if string(b) != packedExample || string(b[:100][len(b):]) != strings.Repeat("\x00", 100-len(b)) {
		t.Errorf("what was written into records is in their encoding: %q", b[:100])
	}
	overwrite([][]byte{b}, '*')
	if !equal(m, want) {
		t.Errorf("what was written into the encoding is in its records: %q", m)
	}
	apart(t, m, want)
}

// P6.2: what Pack answers is memory of its own.
func TestPackIsNewMemory(t *testing.T) {
	l := texts("one", "", "three")
	first, _ := records.Pack(l)
	second, _ := records.Pack(l)
	overwrite([][]byte{second}, '#')
	overwrite(l, '*')
	if string(first) != packedExample || !equal(l, []string{"***", "", "*****"}) {
		t.Errorf("an encoding shares memory: %q, of %q", first, l)
	}
	// One record alone, which could be handed on as it is.
	one := texts("only")
	packed, _ := records.Pack(one)
	overwrite([][]byte{packed}, '#')
	if string(one[0]) != "only" {
		t.Errorf("an encoding shares memory with its one record: %q", one)
	}
}

// P6.1 to P6.3: arguments are read, not changed; only their length counts.
func TestArgumentsAreNotChanged(t *testing.T) {
	room := []byte("one three and room")
	l := append(make([][]byte, 0, 20), room[:3:18], room[3:3:18], room[4:9:18])
	want := []string{"one", "", "three"}
	b, e := records.Pack(l)
	if e != api.OK || string(b) != packedExample {
		t.Errorf("Pack of records with room behind them = %q, %d", b, e)
	}
	if n, e := records.Size(l); n != 16 || e != api.OK {
		t.Errorf("Size of records with room behind them = %d, %d", n, e)
	}
	if !records.Same(l, texts(want...)) || !equal(records.Clone(l), want) {
		t.Error("records with room behind them are other ones")
	}
	if !equal(l, want) || string(room) != "one three and room" || slices.ContainsFunc(l[:20][3:], func(record []byte) bool { return record != nil }) {
		t.Errorf("records are changed: %q, %q", l, room)
	}
	long := append(append(make([]byte, 0, 64), b...), "behind"...)
	if got, e := records.Unpack(long[:len(b)]); e != api.OK || !equal(got, want) || string(long) != packedExample+"behind" {
		t.Errorf("Unpack of bytes with room behind them = %q, %d; %q", got, e, long)
	}
	if _, e := records.Unpack(long[:len(b)-1]); e != api.ErrShort {
		t.Errorf("Unpack of bytes with their last one behind them: %d; want ErrShort", e)
	}
}

// P6.4: what is packed is unpacked as the same records.
func TestPackedIsUnpacked(t *testing.T) {
	packed := 0
	for _, l := range setSamples() {
		b, e := records.Pack(l)
		if e != api.OK {
			continue
		}
		packed++
		got, e := records.Unpack(b)
		if e != api.OK || !records.Same(got, l) {
			t.Errorf("Unpack of Pack(%q) = %q, %d", l, got, e)
		}
		if n, e := records.Size(got); n != len(b) || e != api.OK {
			t.Errorf("Size of what was unpacked of %d bytes = %d, %d", len(b), n, e)
		}
	}
	if packed < 300 {
		t.Errorf("%d sets were packed", packed)
	}
}

// P6.4: what is unpacked, however it came about, is packed as the same bytes.
func TestUnpackedIsPacked(t *testing.T) {
	number := numbers(64)
	unpacked := 0
	for range 20000 {
		n := 1 + number(4)
		b := []byte{byte(n), 0}
		end := 0
		for range n {
			end += number(4)
			b = append(b, byte(end), 0)
		}
		for range end + number(2) {
			b = append(b, byte(number(256)))
		}
		if number(3) == 0 {
			b[number(len(b))] = byte(number(6))
		}
		checkUnpack(t, b)
		l, e := records.Unpack(b)
		if e != api.OK {
			continue
		}
		unpacked++
		if again, e := records.Pack(l); e != api.OK || !bytes.Equal(again, b) {
			t.Errorf("Pack of Unpack(%q) = %q, %d", b, again, e)
		}
	}
	if unpacked < 5000 || unpacked > 15000 {
		t.Errorf("%d rows were unpacked", unpacked)
	}
}
