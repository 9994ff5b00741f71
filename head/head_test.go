package head_test

import (
	"bytes"
	"math"
	"slices"
	"testing"

	"columbarium/api"
	"columbarium/head"
	"columbarium/memory"
)

// row is a field of a header as the chapter has it.
type row struct{ field, at, width int }

// rows are the fields of a header, in their order: those of all blocks, and what a tag's blocks have in addition. No other number is a tag.
func rows(tag int) []row {
	all := []row{{api.FieldTag, 0, 1}, {api.FieldClass, 1, 1}, {api.FieldUsed, 2, 1}, {api.FieldLabel, 3, 1}, {api.FieldName, 4, 4}}
	switch tag {
	case 0:
		return all
	case 1:
		return append(all, row{api.FieldNext, 8, 4}, row{api.FieldPrev, 12, 4}, row{api.FieldExpiry, 16, 8}, row{api.FieldType, 24, 2}, row{api.FieldSize, 26, 2}, row{api.FieldHash, 28, 4})
	case 2:
		return append(all, row{api.FieldRefs, 8, 4}, row{api.FieldHash, 12, 4})
	}
	return nil
}

// find answers the row of a field, or an empty one.
func find(tag int, field int) row {
	for _, r := range rows(tag) {
		if r.field == field {
			return r
		}
	}
	return row{}
}

// size is the number of bytes of a header.
func size(tag int) int {
	return map[int]int{0: 8, 1: 32, 2: 16}[tag]
}

// small is the smallest configuration: its slabs lie from 1136 to 8304. All slabs are free in a new memory.
var small = api.Config{Slabs: 7, Slots: 224}

// first is where the first slab begins, a multiple of 8, and last where the memory ends.
const (
	first = 1136
	last  = 8304
)

// extremes are ints far beyond all that is asked for; some are small once their high bits are lost.
func extremes() []int {
	l := []int{math.MinInt, math.MinInt + 1, math.MinInt + first, math.MaxInt, math.MaxInt - 3, math.MaxInt - 7, math.MaxInt - 31}
	for bit := 16; bit < 63; bit++ {
		l = append(l, 1<<bit, 1<<bit+1, 1<<bit+2, 1<<bit+5, 1<<bit+first, -1<<bit, -1<<bit+1, -1<<bit+2, -1<<bit+5, -1<<bit+first)
	}
	return l
}

// numbers answers a function that answers numbers, the same ones at each start.
func numbers(seed uint64) func() uint64 {
	return func() uint64 {
		seed = seed*6364136223846793005 + 1442695040888963407
		return seed>>32 | seed<<32
	}
}

// set answers a header with another number in a field. Some headers can't have each number: those answer false.
func set(b api.Block, field int, v int) (api.Block, bool) {
	switch field {
	case api.FieldTag:
		b.Tag = v
	case api.FieldClass:
		b.Class = v
	case api.FieldUsed:
		b.Used = v == 1
		return b, v == 0 || v == 1
	case api.FieldLabel:
		b.Label = v
	case api.FieldName:
		b.Name = uint32(v)
		return b, uint64(v) <= math.MaxUint32
	case api.FieldNext:
		b.Next = uint32(v)
		return b, uint64(v) <= math.MaxUint32
	case api.FieldPrev:
		b.Prev = uint32(v)
		return b, uint64(v) <= math.MaxUint32
	case api.FieldExpiry:
		b.Expiry = uint64(v)
	case api.FieldType:
		b.Type = uint16(v)
		return b, uint64(v) <= math.MaxUint16
	case api.FieldSize:
		b.Size = v
	case api.FieldHash:
		b.Hash = uint32(v)
		return b, uint64(v) <= math.MaxUint32
	case api.FieldRefs:
		b.Refs = uint32(v)
		return b, uint64(v) <= math.MaxUint32
	}
	return b, true
}

// value answers the number in a field of a header.
func value(b api.Block, field int) uint64 {
	switch field {
	case api.FieldTag:
		return uint64(b.Tag)
	case api.FieldClass:
		return uint64(b.Class)
	case api.FieldUsed:
		if b.Used {
			return 1
		}
		return 0
	case api.FieldLabel:
		return uint64(b.Label)
	case api.FieldName:
		return uint64(b.Name)
	case api.FieldNext:
		return uint64(b.Next)
	case api.FieldPrev:
		return uint64(b.Prev)
	case api.FieldExpiry:
		return b.Expiry
	case api.FieldType:
		return uint64(b.Type)
	case api.FieldSize:
		return uint64(b.Size)
	case api.FieldHash:
		return uint64(b.Hash)
	case api.FieldRefs:
		return uint64(b.Refs)
	}
	return 0
}

// classRight tells whether a header with a tag may have a class, as the chapter has it.
func classRight(tag int, class int) bool {
	if tag == 0 {
		return class == 0
	}
	return class >= 1 && class <= 9
}

// valid tells whether a header may be, as the chapter has it.
func valid(b api.Block) bool {
	if b.Tag != 0 && b.Tag != 1 && b.Tag != 2 {
		return false
	}
	for field := range 12 {
		if find(b.Tag, field).width == 0 && value(b, field) != 0 {
			return false
		}
	}
	if !classRight(b.Tag, b.Class) {
		return false
	}
	if b.Used && b.Tag != 1 {
		return false
	}
	if b.Tag == 2 && (b.Label < 1 || b.Label > 63) || b.Tag != 2 && b.Label != 0 {
		return false
	}
	return b.Tag == 1 && b.Size >= 0 && b.Size <= 480 || b.Size == 0
}

// put writes a number, its lowest byte first.
func put(l []byte, at int, width int, v uint64) {
	for i := range width {
		l[at+i] = byte(v >> (8 * i))
	}
}

// get reads a number that put has written.
func get(l []byte, at int, width int) uint64 {
	v := uint64(0)
	for i := range width {
		v |= uint64(l[at+i]) << (8 * i)
	}
	return v
}

// encode is the bytes of a header.
func encode(b api.Block) []byte {
	l := make([]byte, size(b.Tag))
	for _, r := range rows(b.Tag) {
		put(l, r.at, r.width, value(b, r.field))
	}
	return l
}

// decode is the header at the beginning of bytes.
func decode(l []byte) (api.Block, api.Errno) {
	switch {
	case len(l) == 0:
		return api.Block{}, api.ErrShort
	case l[0] > 2:
		return api.Block{}, api.ErrForm
	case len(l) < size(int(l[0])):
		return api.Block{}, api.ErrShort
	case l[2] > 1:
		return api.Block{}, api.ErrForm
	}
	b := api.Block{Tag: int(l[0]), Class: int(l[1]), Used: l[2] == 1, Label: int(l[3]), Name: uint32(get(l, 4, 4))}
	switch b.Tag {
	case 1:
		b.Next, b.Prev, b.Expiry = uint32(get(l, 8, 4)), uint32(get(l, 12, 4)), get(l, 16, 8)
		b.Type, b.Size, b.Hash = uint16(get(l, 24, 2)), int(get(l, 26, 2)), uint32(get(l, 28, 4))
	case 2:
		b.Refs, b.Hash = uint32(get(l, 8, 4)), uint32(get(l, 12, 4))
	}
	if !valid(b) {
		return api.Block{}, api.ErrForm
	}
	return b, api.OK
}

// bases are headers that may be: for each tag one with zeros where they may be, one with no two bytes alike (but those that can be 0 alone), one with the greatest numbers.
func bases() []api.Block {
	const most = math.MaxUint32
	return []api.Block{
		{},
		{Name: 0x14131211},
		{Name: most},
		{Tag: 1, Class: 1},
		{Tag: 1, Class: 5, Used: true, Name: 0x14131211, Next: 0x24232221, Prev: 0x34333231, Expiry: 0x4847464544434241, Type: 0x5251, Size: 0x0161, Hash: 0x74737271},
		{Tag: 1, Class: 9, Used: true, Name: most, Next: most, Prev: most, Expiry: math.MaxUint64, Type: math.MaxUint16, Size: 480, Hash: most},
		{Tag: 2, Class: 1, Label: 1},
		{Tag: 2, Class: 3, Label: 17, Name: 0x14131211, Refs: 0x24232221, Hash: 0x34333231},
		{Tag: 2, Class: 9, Label: 63, Name: most, Refs: most, Hash: most},
	}
}

// drawn are many headers that may be.
func drawn() []api.Block {
	next := numbers(13)
	l := bases()
	for range 500 {
		b := api.Block{Name: uint32(next())}
		e := api.Block{Tag: 1, Class: 1 + int(next()%9), Used: next()%2 == 1, Name: uint32(next()), Next: uint32(next()), Prev: uint32(next()), Expiry: next(), Type: uint16(next()), Size: int(next() % 481), Hash: uint32(next())}
		n := api.Block{Tag: 2, Class: 1 + int(next()%9), Label: 1 + int(next()%63), Name: uint32(next()), Refs: uint32(next()), Hash: uint32(next())}
		l = append(l, b, e, n)
	}
	return l
}

// wrong are headers that may not be: each base with a number in one field that the field can't have.
func wrong() []api.Block {
	var l []api.Block
	values := append(extremes(), -1, 0, 1, 2, 3, 9, 10, 63, 64, 255, 256, 257, 480, 481, 482, 512, 65535)
	for _, b := range bases() {
		for field := range 12 {
			for _, v := range values {
				if x, ok := set(b, field, v); ok && !valid(x) {
					l = append(l, x)
				}
			}
		}
	}
	return l
}

// kindOf is the kind of the bytes of a header in a memory.
func kindOf(tag int) int {
	if tag == 0 {
		return api.RegFree
	}
	return api.RegLive
}

// create is a memory whose bytes in a part of its first slab are of a kind.
func create(t *testing.T, at int, n int, kind int) *memory.Memory {
	t.Helper()
	m := memory.New(small)
	mark(t, m, at, n, kind)
	return m
}

// dirty is a memory as create makes it, but each byte of the part is 0x99, so that a 0 that is stored there can be seen.
func dirty(t *testing.T, at int, n int, kind int) *memory.Memory {
	t.Helper()
	m := memory.New(small)
	if !m.Write(at, bytes.Repeat([]byte{0x99}, n), api.RegSlab) {
		t.Fatal("Write", at, n)
	}
	mark(t, m, at, n, kind)
	return m
}

// mark has bytes be of a kind.
func mark(t *testing.T, m *memory.Memory, at int, n int, kind int) {
	t.Helper()
	if e := m.Mark(at, n, kind); e != api.OK {
		t.Fatal("Mark", at, n, kind, e)
	}
}

// holding is a memory with bytes in its first slab, in an area of a kind that ends far behind them.
func holding(t *testing.T, l []byte, kind int) *memory.Memory {
	t.Helper()
	m := create(t, first, 128, kind)
	if !m.Write(first, l, kind) {
		t.Fatal("Write", l, kind)
	}
	return m
}

// P13.1: where each field of each header lies, and what no block has.
func TestWhere(t *testing.T) {
	odd := append(extremes(), -3, -2, -1, 3, 4, 5, 11, 12, 13, 14, 255, 256)
	tags := append(slices.Clone(odd), 0, 1, 2)
	fields := append(slices.Clone(odd), 0, 1, 2, 6, 7, 8, 9, 10)
	for _, tag := range tags {
		for _, field := range fields {
			r := find(tag, field)
			if at, width := head.Where(tag, field); at != r.at || width != r.width {
				t.Errorf("Where(%d, %d) = %d, %d; want %d, %d", tag, field, at, width, r.at, r.width)
			}
		}
	}
}

// P13.1: the sizes of headers.
func TestSize(t *testing.T) {
	for _, tag := range append(extremes(), -2, -1, 0, 1, 2, 3, 4, 255, 256, 257) {
		if n := head.Size(tag); n != size(tag) {
			t.Errorf("Size(%d) = %d; want %d", tag, n, size(tag))
		}
	}
}

// P13.4: the fields of a block fill its header, each byte once, and in their order.
func TestFill(t *testing.T) {
	for tag := range 3 {
		of := make([]int, head.Size(tag))
		for field := range api.Fields {
			at, width := head.Where(tag, field)
			for i := range width {
				of[at+i]++
			}
		}
		for at, n := range of {
			if n != 1 {
				t.Errorf("tag %d: byte %d is in %d fields", tag, at, n)
			}
		}
	}
}

// P13.2: which headers may be: ones that may, and each with another number in one field, at each end and far off.
func TestRight(t *testing.T) {
	for _, b := range drawn() {
		if !valid(b) || !head.Right(b) {
			t.Fatalf("Right(%+v) is false", b)
		}
	}
	l := wrong()
	if len(l) < 1000 {
		t.Fatal("few wrong ones", len(l))
	}
	for _, b := range l {
		if head.Right(b) {
			t.Fatalf("Right(%+v) is true", b)
		}
	}
	values := []int{-1, 0, 1, 2, 8, 9, 10, 62, 63, 64, 65, 255, 256, 479, 480, 481, 65535, 65536}
	for _, b := range bases() {
		for field := range 12 {
			for _, v := range values {
				if x, ok := set(b, field, v); ok && head.Right(x) != valid(x) {
					t.Errorf("Right(%+v) is %v", x, !valid(x))
				}
			}
		}
	}
}

// P13.2: the document's examples of headers that may be and may not.
func TestRightExamples(t *testing.T) {
	if head.Right(api.Block{Tag: api.TagNode, Class: 1}) {
		t.Error("a node without a label")
	}
	if !head.Right(api.Block{Name: 9}) {
		t.Error("a free block with a name")
	}
}

// P13.2, P13.3: the class of a free block is 0, that of an entry or a node from 1 to 9: others may not be, have no bytes and are not put.
func TestClass(t *testing.T) {
	for _, class := range append(extremes(), -9, -2, -1, 0, 1, 2, 3, 4, 5, 6, 7, 8, 9, 10, 11, 255, 256, 257, 265) {
		for _, x := range bases() {
			x.Class = class
			right, want, wantE := classRight(x.Tag, class), []byte(nil), api.ErrArg
			m := dirty(t, first, 32, kindOf(x.Tag))
			image := m.Image()
			if right {
				want, wantE = encode(x), api.OK
				copy(image[first:], want)
			}
			if head.Right(x) != right {
				t.Errorf("Right(%+v) is %v", x, !right)
			}
			if b, e := head.Encode(x); e != wantE || !bytes.Equal(b, want) {
				t.Errorf("Encode(%+v) = %v, %d; want %v, %d", x, b, e, want, wantE)
			}
			if e := head.Put(m, first, x); e != wantE || !bytes.Equal(m.Image(), image) {
				t.Errorf("Put(%+v) = %d; want %d", x, e, wantE)
			}
		}
	}
}

// P13.2, P13.3: bytes with a class that their tag can't have are no header, in live bytes and in free ones.
func TestClassBytes(t *testing.T) {
	for class := range 256 {
		for _, x := range bases() {
			x.Class = class
			want, wantE := x, api.OK
			if !classRight(x.Tag, class) {
				want, wantE = api.Block{}, api.ErrForm
			}
			l := encode(x)
			if b, e := head.Decode(l); b != want || e != wantE {
				t.Errorf("Decode(%v) = %+v, %d; want %+v, %d", l, b, e, want, wantE)
			}
			kinds := []int{api.RegLive}
			if x.Tag == api.TagFree {
				kinds = append(kinds, api.RegFree)
			}
			for _, kind := range kinds {
				if b, e := head.Get(holding(t, l, kind), first); b != want || e != wantE {
					t.Errorf("Get of %v, kind %d = %+v, %d; want %+v, %d", l, kind, b, e, want, wantE)
				}
			}
		}
	}
	if b, e := head.Decode([]byte{0, 1, 0, 0, 0, 0, 0, 0}); b != (api.Block{}) || e != api.ErrForm {
		t.Error("a free block of class 1", b, e)
	}
}

// P13.2: the bytes of headers, and none of one that may not be.
func TestEncode(t *testing.T) {
	b, e := head.Encode(api.Block{Tag: api.TagNode, Class: 1, Label: 3, Name: 5, Refs: 1, Hash: 7})
	if e != api.OK || !bytes.Equal(b, []byte{2, 1, 0, 3, 5, 0, 0, 0, 1, 0, 0, 0, 7, 0, 0, 0}) {
		t.Error("the example", b, e)
	}
	for _, x := range drawn() {
		if b, e := head.Encode(x); e != api.OK || !bytes.Equal(b, encode(x)) {
			t.Fatalf("Encode(%+v) = %v, %d; want %v", x, b, e, encode(x))
		}
	}
	for _, x := range wrong() {
		if b, e := head.Encode(x); e != api.ErrArg || len(b) != 0 {
			t.Fatalf("Encode(%+v) = %v, %d", x, b, e)
		}
	}
}

// decoded holds Decode of bytes against the chapter. The bytes must stay what they are.
func decoded(t *testing.T, l []byte) {
	t.Helper()
	kept := slices.Clone(l)
	want, wantE := decode(l)
	if b, e := head.Decode(l); b != want || e != wantE {
		t.Fatalf("Decode(%v) = %+v, %d; want %+v, %d", l, b, e, want, wantE)
	}
	if !bytes.Equal(l, kept) {
		t.Fatal("Decode has changed its bytes", kept, l)
	}
}

// P13.2: headers of bytes, cut, lengthened, and with any one byte changed to any other.
func TestDecode(t *testing.T) {
	decoded(t, nil)
	decoded(t, []byte{})
	for i := range 256 {
		decoded(t, []byte{byte(i)})
	}
	for _, x := range bases() {
		l := encode(x)
		for n := range len(l) {
			decoded(t, l[:n])
		}
		decoded(t, append(slices.Clone(l), 255, 255, 255, 255))
		decoded(t, append(slices.Clone(l), make([]byte, 40)...))
		for at := range l {
			for i := range 256 {
				c := slices.Clone(l)
				c[at] = byte(i)
				decoded(t, c)
			}
		}
	}
}

// P13.2: of several errors of Decode, the first one that the chapter names.
func TestDecodeOrder(t *testing.T) {
	entry := encode(bases()[4])
	if _, e := head.Decode(entry[:31]); e != api.ErrShort {
		t.Error("cut", e)
	}
	entry[2] = 2
	if _, e := head.Decode(entry); e != api.ErrForm {
		t.Error("a byte of Used that is 2", e)
	}
	if _, e := head.Decode(entry[:31]); e != api.ErrShort {
		t.Error("cut, and not valid", e)
	}
	entry[0] = 3
	if _, e := head.Decode(entry[:1]); e != api.ErrForm {
		t.Error("no tag, and cut", e)
	}
	// A capacity is no bytes.
	entry[0], entry[2] = 1, 1
	if _, e := head.Decode(entry[:0]); e != api.ErrShort {
		t.Error("no bytes", e)
	}
}

// P13.4: Decode inverts Encode, and Encode Decode.
func TestInverse(t *testing.T) {
	for _, x := range drawn() {
		l, e := head.Encode(x)
		if e != api.OK {
			t.Fatal("Encode", x, e)
		}
		if b, e := head.Decode(l); b != x || e != api.OK {
			t.Fatalf("%+v came back as %+v, %d", x, b, e)
		}
	}
	next := numbers(31)
	for range 20000 {
		l := make([]byte, 32)
		for i := range l {
			l[i] = byte(next())
		}
		l[0], l[1], l[2], l[3] = byte(next()%3), byte(next()%3), byte(next()%2), byte(next()%3)
		l[27] = byte(next() % 2)
		l = l[:size(int(l[0]))]
		if b, e := head.Decode(l); e == api.OK {
			if back, e := head.Encode(b); e != api.OK || !bytes.Equal(back, l) {
				t.Fatalf("%v came back as %v, %d", l, back, e)
			}
		}
	}
}

// P13.2: what Encode answers is new memory.
func TestEncodeNew(t *testing.T) {
	x := bases()[7]
	a, _ := head.Encode(x)
	clear(a)
	if b, e := head.Encode(x); e != api.OK || !bytes.Equal(b, encode(x)) {
		t.Error("two answers share bytes", b, e)
	}
}

// P13.3: headers that are put and got, wherever blocks can lie, without a fault.
func TestPutGet(t *testing.T) {
	for _, x := range drawn() {
		kind := kindOf(x.Tag)
		for _, at := range []int{first, first + 8, first + 1016 - 32, last - size(x.Tag)} {
			m := dirty(t, at, size(x.Tag), kind)
			want := m.Image()
			copy(want[at:], encode(x))
			if e := head.Put(m, at, x); e != api.OK {
				t.Fatalf("Put(%d, %+v) = %d", at, x, e)
			}
			if !bytes.Equal(m.Image(), want) {
				t.Fatalf("Put(%d, %+v): other bytes", at, x)
			}
			if b, e := head.Get(m, at); b != x || e != api.OK {
				t.Fatalf("Get(%d) = %+v, %d; want %+v", at, b, e, x)
			}
			if m.Faults() != 0 || !bytes.Equal(m.Image(), want) {
				t.Fatal("faults, or bytes that Get has changed", m.Faults(), at, x)
			}
		}
	}
}

// P13.3: the example: an entry can be put as soon as its bytes are live.
func TestPutExample(t *testing.T) {
	x := bases()[4]
	m := memory.New(small)
	kept := m.Image()
	if e := head.Put(m, first, x); e != api.ErrKind || !bytes.Equal(m.Image(), kept) {
		t.Error("ahead of Mark", e)
	}
	mark(t, m, first, 32, api.RegLive)
	if e := head.Put(m, first, x); e != api.OK {
		t.Error("behind Mark", e)
	}
	if b, e := head.Get(m, first); b != x || e != api.OK {
		t.Error("Get", b, e)
	}
}

// P13.3: headers that may not be are not put, wherever it is, and nothing is stored.
func TestPutWrong(t *testing.T) {
	m := create(t, first, 128, api.RegLive)
	mark(t, m, first+128, 128, api.RegFree)
	kept := m.Image()
	for i, x := range wrong() {
		for _, at := range []int{first, first + 128, first + 256, -1, last} {
			if e := head.Put(m, at, x); e != api.ErrArg {
				t.Fatalf("Put(%d, %+v) = %d", at, x, e)
			}
		}
		if i%64 == 0 && !bytes.Equal(m.Image(), kept) {
			t.Fatalf("Put of %+v has changed bytes", x)
		}
	}
	if !bytes.Equal(m.Image(), kept) || m.Faults() != 0 {
		t.Error("other bytes, or faults", m.Faults())
	}
}

// P13.3: a block is put with its own kind alone, and where no memory is not at all.
func TestPutKind(t *testing.T) {
	for _, x := range bases() {
		for kind := range 9 {
			m := dirty(t, first, 64, kind)
			want, wantE := m.Image(), api.ErrKind
			if kind == kindOf(x.Tag) {
				copy(want[first:], encode(x))
				wantE = api.OK
			}
			if e := head.Put(m, first, x); e != wantE || !bytes.Equal(m.Image(), want) {
				t.Errorf("Put(%+v) to kind %d = %d; want %d", x, kind, e, wantE)
			}
		}
		m := create(t, first, last-first, kindOf(x.Tag))
		kept := m.Image()
		for _, at := range append(extremes(), -33, -32, -8, -1, 0, 8, first-32, first-8, first-4, last, last+1, last+8) {
			if e := head.Put(m, at, x); e != api.ErrKind {
				t.Errorf("Put(%d, %+v) = %d", at, x, e)
			}
		}
		if !bytes.Equal(m.Image(), kept) {
			t.Errorf("Put of %+v at no block has changed bytes", x)
		}
	}
}

// P13.3: fields are stored in their order, up to the first one that can't be; those ahead of it remain, and none behind it is stored.
func TestPutPartly(t *testing.T) {
	for _, x := range bases() {
		kind := kindOf(x.Tag)
		for hole := 0; hole <= size(x.Tag); hole += 4 {
			if x.Tag == 2 && hole >= 8 && hole < 16 {
				continue
			}
			m := dirty(t, first, 64, kind)
			mark(t, m, first+hole, 4, api.RegHead)
			want, wantE := m.Image(), api.OK
			for _, r := range rows(x.Tag) {
				if r.at+r.width > hole {
					wantE = api.ErrKind
					break
				}
				put(want, first+r.at, r.width, value(x, r.field))
			}
			if e := head.Put(m, first, x); e != wantE || !bytes.Equal(m.Image(), want) {
				t.Errorf("Put(%+v) with byte %d of another kind = %d; want %d", x, hole, e, wantE)
			}
		}
	}
}

// P13.3: fields that are not at a multiple of their width can't be stored; those ahead of them remain.
func TestPutAligned(t *testing.T) {
	for _, x := range bases() {
		for shift := range 9 {
			at := first + shift
			m := dirty(t, first, 64, kindOf(x.Tag))
			want, wantE := m.Image(), api.OK
			for _, r := range rows(x.Tag) {
				if (at+r.at)%r.width != 0 {
					wantE = api.ErrKind
					break
				}
				put(want, at+r.at, r.width, value(x, r.field))
			}
			if e := head.Put(m, at, x); e != wantE || !bytes.Equal(m.Image(), want) {
				t.Errorf("Put(%d, %+v) = %d; want %d", at, x, e, wantE)
			}
		}
	}
}

// P13.3: there is a header in live and in free blocks alone, as the first four bytes are.
func TestGetKind(t *testing.T) {
	for kind := range 9 {
		m := holding(t, nil, kind)
		want := api.ErrKind
		if kind == api.RegFree || kind == api.RegLive {
			want = api.OK
		}
		if b, e := head.Get(m, first); b != (api.Block{}) || e != want {
			t.Errorf("Get of kind %d = %+v, %d; want %d", kind, b, e, want)
		}
	}
	m := create(t, first, 32, api.RegLive)
	mark(t, m, first+32, 32, api.RegFree)
	for _, at := range append(extremes(), -32, -4, -1, 0, 8, first-8, first-4, first-3, first-1, first+29, first+31, first+61, first+63, first+64, last-32, last-4, last-1, last, last+1) {
		faults := m.Faults()
		if b, e := head.Get(m, at); b != (api.Block{}) || e != api.ErrKind {
			t.Errorf("Get(%d) = %+v, %d", at, b, e)
		}
		if m.Faults() != faults {
			t.Errorf("Get(%d) is a fault", at)
		}
	}
}

// P13.3: Get of live bytes with any one byte changed: a first byte that is no tag, and headers that are not valid.
func TestGetForm(t *testing.T) {
	for _, x := range bases() {
		for at := range size(x.Tag) {
			for i := range 256 {
				l := append(encode(x), make([]byte, 32)...)
				l[at] = byte(i)
				want, wantE := decode(l)
				if b, e := head.Get(holding(t, l, api.RegLive), first); b != want || e != wantE {
					t.Fatalf("Get of live %v = %+v, %d; want %+v, %d", l, b, e, want, wantE)
				}
			}
		}
	}
}

// P13.3: a free block is read as one: its first byte must be 0.
func TestGetFree(t *testing.T) {
	for i := range 256 {
		l := []byte{byte(i), 0, 0, 0, 9, 0, 0, 0, 1, 0, 0, 0, 1, 0, 0, 0}
		want, wantE := api.Block{Name: 9}, api.OK
		if i != 0 {
			want, wantE = api.Block{}, api.ErrForm
		}
		if b, e := head.Get(holding(t, l, api.RegFree), first); b != want || e != wantE {
			t.Errorf("Get of free %v = %+v, %d", l, b, e)
		}
	}
	for _, l := range [][]byte{{0, 1, 0, 0}, {0, 9, 0, 0}, {0, 10, 0, 0}, {0, 0, 1, 0}, {0, 0, 2, 0}, {0, 0, 0, 1}} {
		if b, e := head.Get(holding(t, l, api.RegFree), first); b != (api.Block{}) || e != api.ErrForm {
			t.Errorf("Get of free %v = %+v, %d", l, b, e)
		}
	}
}

// P13.3: fields that can't be read, for their kind is another one or they are not at a multiple of their width: one fault at most.
func TestGetPartly(t *testing.T) {
	for _, x := range bases() {
		kind := kindOf(x.Tag)
		for hole := 4; hole <= size(x.Tag); hole += 4 {
			m := holding(t, encode(x), kind)
			mark(t, m, first+hole, 4, api.RegPad)
			want, wantE, most := x, api.OK, 0
			if hole < size(x.Tag) {
				want, wantE, most = api.Block{}, api.ErrKind, 1
			}
			if b, e := head.Get(m, first); b != want || e != wantE || m.Faults() > most {
				t.Errorf("Get of %+v with byte %d of another kind = %+v, %d, %d faults", x, hole, b, e, m.Faults())
			}
		}
		for shift := range 9 {
			at := first + shift
			m := create(t, first, 64, kind)
			if !m.Write(at, encode(x), kind) {
				t.Fatal("Write", at)
			}
			want, wantE, most := x, api.OK, 0
			for _, r := range rows(x.Tag) {
				if (at+r.at)%r.width != 0 {
					want, wantE, most = api.Block{}, api.ErrKind, 1
				}
			}
			if b, e := head.Get(m, at); b != want || e != wantE || m.Faults() > most {
				t.Errorf("Get(%d) of %+v = %+v, %d, %d faults", at, x, b, e, m.Faults())
			}
		}
	}
}

// P13.3: of several errors of Get, the first one that the chapter names.
func TestGetOrder(t *testing.T) {
	short := func(l []byte, kind int) *memory.Memory {
		m := holding(t, l, kind)
		mark(t, m, first+4, 124, api.RegSlab)
		return m
	}
	if _, e := head.Get(short([]byte{3, 1, 0, 0}, api.RegLive), first); e != api.ErrForm {
		t.Error("no tag, and fields that can't be read", e)
	}
	if _, e := head.Get(short([]byte{1, 0, 2, 9}, api.RegLive), first); e != api.ErrKind {
		t.Error("fields that can't be read, and not valid", e)
	}
	if _, e := head.Get(short([]byte{1, 0, 0, 0}, api.RegFree), first); e != api.ErrKind {
		t.Error("fields that can't be read, and a free block with a tag", e)
	}
	if _, e := head.Get(short([]byte{3, 1, 0, 0}, api.RegPad), first); e != api.ErrKind {
		t.Error("another kind, and no tag", e)
	}
}

// fieldsOf are numbers of fields, and numbers that are none.
func fieldsOf() []int {
	l := append(extremes(), -3, -2, -1, 12, 13, 14, 255, 256)
	for field := range 12 {
		l = append(l, field)
	}
	return l
}

// P13.3: the number in each field of each block, according to its kind and tag; 0 in what is no field of it, which is no fault.
func TestLoad(t *testing.T) {
	for _, x := range bases() {
		l := encode(x)
		for len(l) < 32 {
			l = append(l, 0x99)
		}
		m := holding(t, l, kindOf(x.Tag))
		kept := m.Image()
		for _, field := range fieldsOf() {
			want := uint64(0)
			if r := find(x.Tag, field); r.width > 0 {
				want = value(x, field)
			}
			if v := head.Load(m, first, field); v != want {
				t.Errorf("Load of field %d of %+v = %#x; want %#x", field, x, v, want)
			}
		}
		if m.Faults() != 0 || !bytes.Equal(m.Image(), kept) {
			t.Errorf("Load of %+v: %d faults, or other bytes", x, m.Faults())
		}
	}
}

// P13.3: Load reads the bytes as they are, valid or not: by their tag if they are live, and as a free block if they are free.
func TestLoadTag(t *testing.T) {
	l := make([]byte, 64)
	for i := range l {
		l[i] = byte(0x81 + i)
	}
	for tag := range 256 {
		l[0] = byte(tag)
		for _, kind := range []int{api.RegLive, api.RegFree} {
			m := holding(t, l, kind)
			of := tag
			if kind == api.RegFree {
				of = 0
			}
			for field := -1; field <= 12; field++ {
				r := find(of, field)
				if v := head.Load(m, first, field); v != get(l, r.at, r.width) {
					t.Fatalf("Load of field %d, kind %d, first byte %d = %#x; want %#x", field, kind, tag, v, get(l, r.at, r.width))
				}
			}
		}
	}
}

// P13.3: fields that can't be read are 0, and can't be stored; those beside them can.
func TestFieldsPartly(t *testing.T) {
	for _, x := range bases() {
		kind := kindOf(x.Tag)
		for hole := 4; hole < 32; hole += 4 {
			for shift := 0; shift < 8; shift += 4 {
				at := first + shift
				m := create(t, first, 64, kind)
				if !m.Write(at, encode(x), kind) {
					t.Fatal("Write", at)
				}
				mark(t, m, at+hole, 4, api.RegPad)
				for _, r := range rows(x.Tag) {
					ok := (r.at+r.width <= hole || r.at >= hole+4) && (at+r.at)%r.width == 0
					want := uint64(0)
					if ok {
						want = value(x, r.field)
					}
					if v := head.Load(m, at, r.field); v != want {
						t.Errorf("Load(%d, %d) of %+v with byte %d of another kind = %#x; want %#x", at, r.field, x, hole, v, want)
					}
					image := m.Image()
					if ok {
						put(image, at+r.at, r.width, value(x, r.field))
					}
					if head.Store(m, at, r.field, value(x, r.field)) != ok || !bytes.Equal(m.Image(), image) {
						t.Errorf("Store(%d, %d) of %+v with byte %d of another kind is %v", at, r.field, x, hole, !ok)
					}
				}
			}
		}
	}
}

// P13.3: outside the memory, and where bytes are of two kinds or of none, there is nothing to load or to store.
func TestFieldsNowhere(t *testing.T) {
	m := create(t, first, 32, api.RegLive)
	mark(t, m, first+32, 32, api.RegFree)
	mark(t, m, first+64, 32, api.RegNone)
	for i := range 64 {
		kind := api.RegLive
		if i >= 32 {
			kind = api.RegFree
		}
		if !m.Store(first+i, 1, kind, 1) {
			t.Fatal("Store", i)
		}
	}
	kept := m.Image()
	for _, at := range append(extremes(), -32, -8, -4, -1, first-3, first-1, first+29, first+30, first+31, first+61, first+63, first+64, first+72, last-3, last-1, last, last+1, last+8) {
		for field := -1; field <= 12; field++ {
			if v := head.Load(m, at, field); v != 0 {
				t.Errorf("Load(%d, %d) = %d", at, field, v)
			}
			if head.Store(m, at, field, 1) {
				t.Errorf("Store(%d, %d) is true", at, field)
			}
		}
	}
	if !bytes.Equal(m.Image(), kept) {
		t.Error("other bytes")
	}
}

// P13.3, P13.4: each number that fits is stored, and then loaded; storing one changes no other.
func TestStore(t *testing.T) {
	for _, x := range bases() {
		kind := kindOf(x.Tag)
		for _, r := range rows(x.Tag) {
			for _, v := range []uint64{0, 1, 2, 3, 77, 127, 128, 255, 256, 257, 65535, 65536, 1<<31 - 1, 1 << 31, 1<<32 - 1, 1 << 32, 1<<32 + 1, 1<<63 - 1, 1 << 63, math.MaxUint64 - 1, math.MaxUint64} {
				m := holding(t, encode(x), kind)
				want, fits := m.Image(), r.width == 8 || v>>(8*r.width) == 0
				if fits {
					put(want, first+r.at, r.width, v)
				}
				if head.Store(m, first, r.field, v) != fits || !bytes.Equal(m.Image(), want) {
					t.Errorf("Store of %#x in field %d of %+v is %v, or has other bytes", v, r.field, x, !fits)
				}
				if m.Faults() != 0 {
					t.Errorf("Store of %#x in field %d of %+v is a fault", v, r.field, x)
				}
				if fits && r.field != api.FieldTag {
					loaded(t, m, x, r.field, v)
				}
			}
		}
	}
}

// loaded holds all fields of a block of which one has been stored against what they must be.
func loaded(t *testing.T, m *memory.Memory, x api.Block, stored int, v uint64) {
	t.Helper()
	for _, r := range rows(x.Tag) {
		want := value(x, r.field)
		if r.field == stored {
			want = v
		}
		if l := head.Load(m, first, r.field); l != want {
			t.Errorf("after Store of %#x in field %d of %+v, field %d is %#x", v, stored, x, r.field, l)
		}
	}
}

// P13.3: what is no field of a block can't be stored, and it is no fault to try.
func TestStoreNone(t *testing.T) {
	for _, x := range bases() {
		m := holding(t, encode(x), kindOf(x.Tag))
		kept := m.Image()
		for _, field := range fieldsOf() {
			if find(x.Tag, field).width == 0 && head.Store(m, first, field, 1) {
				t.Errorf("Store in field %d of %+v is true", field, x)
			}
		}
		if m.Faults() != 0 || !bytes.Equal(m.Image(), kept) {
			t.Errorf("Store in no field of %+v: %d faults, or other bytes", x, m.Faults())
		}
	}
	for tag := 3; tag < 256; tag++ {
		m := holding(t, []byte{byte(tag), 1, 1, 1}, api.RegLive)
		kept := m.Image()
		for field := range 12 {
			if head.Store(m, first, field, 2) {
				t.Errorf("Store in field %d of the tag %d is true", field, tag)
			}
		}
		if !bytes.Equal(m.Image(), kept) {
			t.Error("other bytes", tag)
		}
	}
}

// P13.3: the examples of Load and Store, for an entry; and a block whose tag is stored has the fields of that tag.
func TestFieldExamples(t *testing.T) {
	m := create(t, first, 32, api.RegLive)
	if e := head.Put(m, first, bases()[4]); e != api.OK {
		t.Fatal("Put", e)
	}
	if v := head.Load(m, first, api.FieldRefs); v != 0 {
		t.Error("the references of an entry", v)
	}
	if head.Store(m, first, api.FieldSize, 65536) || head.Store(m, first, api.FieldRefs, 1) {
		t.Error("stored what can't be")
	}
	if !head.Store(m, first, api.FieldSize, 65535) || head.Load(m, first, api.FieldSize) != 65535 {
		t.Error("a size that fits")
	}
	if !head.Store(m, first, api.FieldTag, api.TagNode) || head.Load(m, first, api.FieldSize) != 0 || head.Load(m, first, api.FieldRefs) != 0x24232221 {
		t.Error("as a node")
	}
}

// R1: a nil memory, and one that package memory has not made, have no headers.
func TestNoMemory(t *testing.T) {
	for _, m := range []*memory.Memory{nil, {}} {
		for _, at := range append(extremes(), -1, 0, 8, first) {
			if b, e := head.Get(m, at); b != (api.Block{}) || e == api.OK {
				t.Error("Get", at, b, e)
			}
			for _, x := range bases() {
				if head.Put(m, at, x) == api.OK {
					t.Error("Put", at, x)
				}
			}
			if e := head.Put(m, at, api.Block{Tag: 3}); e == api.OK {
				t.Error("Put of what may not be", at)
			}
			for field := range 12 {
				if head.Load(m, at, field) != 0 || head.Store(m, at, field, 1) {
					t.Error("a field", at, field)
				}
			}
		}
	}
}

// R4: two memories are independent of each other.
func TestApart(t *testing.T) {
	a, b := create(t, first, 32, api.RegLive), create(t, first, 32, api.RegLive)
	if e := head.Put(a, first, bases()[4]); e != api.OK {
		t.Fatal("Put", e)
	}
	if x, e := head.Get(b, first); x != (api.Block{}) || e != api.OK {
		t.Error("the other one", x, e)
	}
}
