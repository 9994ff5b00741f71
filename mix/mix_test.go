package mix_test

import (
	"bytes"
	"hash/fnv"
	"math"
	"slices"
	"strconv"
	"strings"
	"testing"

	"columbarium/mix"
)

const (
	capitals = "ABCDEFGHIJKLMNOPQRSTUVWXYZ"
	small    = "abcdefghijklmnopqrstuvwxyz"
	none     = 2166136261 // the hash of no labels
)

// odd are texts that are no labels: of bytes that no label has, of runes with another case, of bytes that are no rune, and too long ones.
var odd = []string{
	"", ".", "..", "a.b", ".a", "a.", " ", "a b", "\x00", "\x00\x00", "\x7f", "\x80", "\xff", "\xc3", "\xc3A", "A\xc3", "\xc1", "\xe1",
	"É", "é", "\u212a", "\u017f", "\u0130", "Σ", "ẞ", "\ufffd", "😀", strings.Repeat("Z", 64), strings.Repeat("aB.", 1000),
}

// labels are ordinary ones, some of which differ by the case of letters alone.
var labels = []string{"a", "A", "www", "WWW", "wWw", "mail", "Example", "org", "A-_9~!", "[", "{", "@", "`", "^", strings.Repeat("x", 63), strings.Repeat("X", 63)}

// numbers answers numbers of every size: the ends, and around every power of 2.
func numbers() []uint32 {
	all := []uint32{0, 2, 9, 222, none, 16777619, 899433627, 0x12345678, 0xdeadbeef, 1<<32 - 2}
	for i := range 32 {
		all = append(all, 1<<i-1, 1<<i, 1<<i+1)
	}
	return append(all, 1<<32-1)
}

// step answers a step word by word as P3.1 has it, in numbers that don't wrap round.
func step(h uint32, b byte) uint32 {
	return uint32((uint64(h) ^ uint64(b)) * 16777619 % (1 << 32))
}

// steps answers a step with each byte of a text.
func steps(h uint32, s string) uint32 {
	for i := range len(s) {
		h = step(h, s[i])
	}
	return h
}

// lower answers a text with its letters from A to Z small.
func lower(s string) string {
	b := []byte(s)
	for i, c := range b {
		if at := strings.IndexByte(capitals, c); at >= 0 {
			b[i] = small[at]
		}
	}
	return string(b)
}

// written answers a name as the text whose steps are its hash: its labels in small letters, the last one first, each with a dot behind it.
func written(labels []string) string {
	s := ""
	for _, label := range labels {
		s = lower(label) + "." + s
	}
	return s
}

// library answers the library's FNV-1a hash of a text.
func library(s string) uint32 {
	h := fnv.New32a()
	h.Write([]byte(s))
	return h.Sum32()
}

// chains answers names of up to three labels, and slices that are no names.
func chains() [][]string {
	all := [][]string{nil, {}, {"mail", "example", "org"}, {"MAIL", "Example", "oRG"}, {"a", "b", "c", "d"}, slices.Repeat([]string{"a"}, 128)}
	for _, a := range append(slices.Clone(labels), odd...) {
		all = append(all, []string{a})
		for _, b := range []string{"a", "A", "B", "", ".", "É", "\xff"} {
			all = append(all, []string{a, b}, []string{b, a}, []string{a, b, "org"})
		}
	}
	return all
}

// P3.1: steps that are known.
func TestKnownSteps(t *testing.T) {
	for _, x := range []struct {
		h    uint32
		b    byte
		want uint32
	}{
		{0, 0, 0}, {0, 1, 16777619}, {1, 0, 16777619}, {1, 1, 0}, {255, 255, 0}, {1, 2, 50332857}, {256, 0, 103168},
		{none, 'a', 3826002220}, {none, 'b', 0xe70c2de5}, {none, 0, 0x050c5d1f}, {1 << 31, 0, 1 << 31}, {1<<32 - 1, 0, 4278189677}, {1<<32 - 1, 255, 4294864128},
	} {
		if got := mix.Step(x.h, x.b); got != x.want {
			t.Errorf("Step(%d, %d) = %d; want %d", x.h, x.b, got, x.want)
		}
	}
}

// P3.1: a step with each byte from numbers of every size.
func TestStepWithEachByte(t *testing.T) {
	for _, h := range numbers() {
		for b := range 256 {
			if got, want := mix.Step(h, byte(b)), step(h, byte(b)); got != want {
				t.Fatalf("Step(%d, %d) = %d; want %d", h, b, got, want)
			}
		}
	}
}

// P3.1: Back of each byte and of numbers of every size answers what a step leads from, and a step leads there again.
func TestBackWithEachByte(t *testing.T) {
	for _, h := range numbers() {
		for b := range 256 {
			if got := mix.Back(step(h, byte(b)), byte(b)); got != h {
				t.Fatalf("Back of the step from %d with %d = %d", h, b, got)
			}
			if got := mix.Back(h, byte(b)); step(got, byte(b)) != h {
				t.Fatalf("Back(%d, %d) = %d, from which a step leads to %d", h, b, got, step(got, byte(b)))
			}
		}
	}
}

// P3.1: steps back that are known.
func TestKnownStepsBack(t *testing.T) {
	for _, x := range []struct {
		h    uint32
		b    byte
		want uint32
	}{
		{0, 0, 0}, {0, 255, 255}, {16777619, 0, 1}, {16777619, 1, 0}, {1, 0, 899433627}, {3826002220, 'a', none}, {3826002220, 'b', none ^ 'a' ^ 'b'}, {1 << 31, 0, 1 << 31},
	} {
		if got := mix.Back(x.h, x.b); got != x.want {
			t.Errorf("Back(%d, %d) = %d; want %d", x.h, x.b, got, x.want)
		}
	}
}

// P3.1: the examples of the chapter, and hashes that are known.
func TestKnownBytes(t *testing.T) {
	for _, x := range []struct {
		h    uint32
		s    string
		want uint32
	}{
		{none, "", none}, {none, "a", 3826002220}, {none, "foobar", 0xbf9cf968}, {none, "fo", 0x6222e842}, {none, "chongo was here!\n", 0xd49930d5},
		{7, "", 7}, {0, "", 0}, {1<<32 - 1, "", 1<<32 - 1}, {0, "\x00", 0}, {0, "\x00\x00\x00\x00", 0}, {9, "\x02\x01", step(step(9, 2), 1)},
	} {
		if got := mix.Bytes(x.h, []byte(x.s)); got != x.want {
			t.Errorf("Bytes(%d, %q) = %d; want %d", x.h, x.s, got, x.want)
		}
	}
	if got := mix.Bytes(7, nil); got != 7 {
		t.Errorf("Bytes(7, nil) = %d; want 7", got)
	}
}

// P3.1: Bytes takes each byte as it is, in order: letters of either case, those of runes, those that are no rune, and zeros.
func TestBytesTakesEachByte(t *testing.T) {
	for b := range 256 {
		for _, around := range []struct{ ahead, behind string }{{"", ""}, {"a", ""}, {"", "Z"}, {"\xc3", "\xa9"}, {"\x00", "\x00"}} {
			s := around.ahead + string([]byte{byte(b)}) + around.behind
			if got, want := mix.Bytes(none, []byte(s)), library(s); got != want {
				t.Errorf("Bytes(none, %q) = %d; want %d", s, got, want)
			}
		}
	}
	for _, s := range append(slices.Clone(labels), odd...) {
		if got, want := mix.Bytes(none, []byte(s)), library(s); got != want {
			t.Errorf("Bytes(none, %q) = %d; want %d", s, got, want)
		}
		for _, h := range numbers() {
			if got, want := mix.Bytes(h, []byte(s)), steps(h, s); got != want {
				t.Fatalf("Bytes(%d, %q) = %d; want %d", h, s, got, want)
			}
		}
	}
	if mix.Bytes(none, []byte("ab")) == mix.Bytes(none, []byte("ba")) {
		t.Error("the order of bytes is lost")
	}
}

// P3.1: long slices are hashed to their ends.
func TestBytesOfLongSlices(t *testing.T) {
	for _, n := range []int{255, 256, 257, 65535, 65536, 65537, 1 << 20} {
		b := bytes.Repeat([]byte{'x'}, n)
		if got, want := mix.Bytes(none, b), library(string(b)); got != want {
			t.Errorf("Bytes of %d bytes = %d; want %d", n, got, want)
		}
	}
}

// P3.1: only the length of a slice counts, and it isn't changed.
func TestBytesReadsASliceAlone(t *testing.T) {
	whole := []byte("AbCdEf")
	if got, want := mix.Bytes(none, whole[1:3]), library("bC"); got != want {
		t.Errorf("Bytes of a part = %d; want %d", got, want)
	}
	if got := mix.Bytes(7, whole[:0]); got != 7 {
		t.Errorf("Bytes of nothing = %d; want 7", got)
	}
	if string(whole) != "AbCdEf" {
		t.Errorf("changed: %q", whole)
	}
}

// P3.2: a label is stepped with in small letters, and a dot behind it, whatever text it is.
func TestLabelOfTexts(t *testing.T) {
	for _, label := range append(slices.Clone(labels), odd...) {
		for _, parent := range numbers() {
			if got, want := mix.Label(parent, label), steps(parent, lower(label)+"."); got != want {
				t.Fatalf("Label(%d, %q) = %d; want %d", parent, label, got, want)
			}
		}
	}
}

// P3.2: each byte as a label, and within one: the letters A to Z alone become others.
func TestLabelOfEachByte(t *testing.T) {
	for b := range 256 {
		c := string([]byte{byte(b)})
		for _, label := range []string{c, "a" + c, c + "z", "x" + c + "Y"} {
			if got, want := mix.Label(none, label), library(lower(label)+"."); got != want {
				t.Errorf("Label(none, %q) = %d; want %d", label, got, want)
			}
		}
	}
}

// P3.2: labels that are known, among them the empty text.
func TestKnownLabels(t *testing.T) {
	for _, x := range []struct {
		parent uint32
		label  string
		want   uint32
	}{
		{none, "", library(".")}, {0, "", 46 * 16777619}, {46, "", 0}, {none, "A", library("a.")}, {none, "a.b", library("a.b.")}, {none, "WWW", library("www.")},
		{none, "\u212a", library("\u212a.")}, {none, "\xc1", library("\xc1.")}, {none, "[", library("[.")},
	} {
		if got := mix.Label(x.parent, x.label); got != x.want {
			t.Errorf("Label(%d, %q) = %d; want %d", x.parent, x.label, got, x.want)
		}
	}
}

// P3.2: the examples of the chapter.
func TestKnownChains(t *testing.T) {
	if mix.Chain(nil) != none || mix.Chain([]string{}) != none {
		t.Error("no labels:", mix.Chain(nil), mix.Chain([]string{}))
	}
	if got, want := mix.Chain([]string{"WWW", "a"}), mix.Label(mix.Label(none, "A"), "www"); got != want {
		t.Errorf("Chain of www.a = %d; want %d", got, want)
	}
	if got, want := mix.Chain([]string{"mail", "Example", "ORG"}), library("org.example.mail."); got != want {
		t.Errorf("Chain of mail.example.org = %d; want %d", got, want)
	}
	if mix.Chain([]string{""}) == none {
		t.Error("an empty label is none")
	}
}

// P3.2: the last label first, for names and for what is none.
func TestChains(t *testing.T) {
	for _, chain := range chains() {
		if got, want := mix.Chain(chain), library(written(chain)); got != want {
			t.Errorf("Chain(%q) = %d; want %d", chain, got, want)
		}
		for i, label := range chain {
			below := mix.Chain(chain[i+1:])
			if got, want := mix.Chain(chain[i:]), mix.Label(below, label); got != want {
				t.Errorf("Chain(%q) = %d; want the label below the others: %d", chain[i:], got, want)
			}
		}
	}
}

// P3.2: labels are kept apart, and so is their order.
func TestChainsDiffer(t *testing.T) {
	seen := map[uint32][]string{}
	for _, chain := range [][]string{{}, {""}, {"", ""}, {"ab"}, {"ba"}, {"a", "b"}, {"b", "a"}, {"a"}, {"b"}, {"ab", ""}, {"", "ab"}, {"abc"}, {"a", "bc"}, {"ab", "c"}, {"a", "b", "c"}, {"c", "b", "a"}} {
		h := mix.Chain(chain)
		if other, found := seen[h]; found {
			t.Errorf("Chain(%q) and Chain(%q) are both %d", chain, other, h)
		}
		seen[h] = chain
	}
}

// P3.2: a slice of labels isn't changed, and what lies beyond its length isn't read.
func TestChainReadsASliceAlone(t *testing.T) {
	whole := []string{"X", "WWW", "Example", "Org", "Y"}
	if got, want := mix.Chain(whole[1:4]), library("org.example.www."); got != want {
		t.Errorf("Chain of a part = %d; want %d", got, want)
	}
	if !slices.Equal(whole, []string{"X", "WWW", "Example", "Org", "Y"}) {
		t.Errorf("changed: %q", whole)
	}
}

// P3.2: a long slice of labels, far beyond a name, is hashed whole.
func TestChainOfManyLabels(t *testing.T) {
	const n = 1 << 16
	if got, want := mix.Chain(slices.Repeat([]string{"Ab"}, n)), library(strings.Repeat("ab.", n)); got != want {
		t.Errorf("Chain of %d labels = %d; want %d", n, got, want)
	}
}

// P3.2: the low byte of a type is ahead of its high byte, for each type.
func TestKeyOfEachType(t *testing.T) {
	if got, want := mix.Key(9, 258), mix.Step(mix.Step(9, 2), 1); got != want {
		t.Errorf("Key(9, 258) = %d; want %d", got, want)
	}
	for _, name := range []uint32{0, 1, 9, none, 1<<32 - 1} {
		for typ := range 1 << 16 {
			want := steps(name, string([]byte{byte(typ % 256), byte(typ / 256)}))
			if got := mix.Key(name, uint16(typ)); got != want {
				t.Fatalf("Key(%d, %d) = %d; want %d", name, typ, got, want)
			}
		}
	}
}

// P3.2: a key of the type 0 and of a small one has two steps, as any other.
func TestKeyHasTwoSteps(t *testing.T) {
	for _, name := range numbers() {
		for _, typ := range []uint16{0, 1, 255, 256, 257, 65280, 65535} {
			want := steps(name, string([]byte{byte(typ % 256), byte(typ / 256)}))
			if got := mix.Key(name, typ); got != want {
				t.Errorf("Key(%d, %d) = %d; want %d", name, typ, got, want)
			}
		}
	}
	if mix.Key(1, 1) == mix.Key(1, 256) || mix.Key(1, 0) == 1 {
		t.Error("the bytes of a type are lost")
	}
}

// P3.2: the remainder, never below 0, and 0 for what is no number of slots.
func TestHome(t *testing.T) {
	for _, x := range []struct {
		h     uint32
		slots int
		want  int
	}{
		{1<<32 - 1, 10, 5}, {9, -1, 0}, {9, 0, 0}, {0, 0, 0}, {1<<32 - 1, 0, 0}, {9, -10, 0}, {1<<32 - 1, -10, 0}, {9, math.MinInt, 0}, {9, math.MinInt + 1, 0}, {9, math.MinInt32, 0},
		{0, 1, 0}, {9, 1, 0}, {1<<32 - 1, 1, 0}, {9, 2, 1}, {9, 9, 0}, {9, 10, 9}, {8, 9, 8}, {10, 9, 1}, {222, 224, 222}, {223, 224, 223}, {224, 224, 0}, {225, 224, 1},
		{1 << 31, 8192, 0}, {1<<31 + 3, 8192, 3}, {1<<32 - 1, 8192, 8191}, {1<<32 - 1, 224, 31}, {1<<32 - 1, 1<<31 - 1, 1}, {1<<31 - 1, 1<<31 - 1, 0}, {1<<31 - 2, 1<<31 - 1, 1<<31 - 2},
		{0, math.MaxInt, 0}, {9, math.MaxInt, 9}, {1<<31 - 2, math.MaxInt, 1<<31 - 2},
	} {
		if got := mix.Home(x.h, x.slots); got != x.want {
			t.Errorf("Home(%d, %d) = %d; want %d", x.h, x.slots, got, x.want)
		}
	}
}

// P3.2: numbers of slots that 32 bits don't hold, where an int does.
func TestHomeOfMoreSlotsThanHashes(t *testing.T) {
	if strconv.IntSize < 64 {
		t.Skip("an int has 32 bits")
	}
	wide := int64(1) << 32
	for _, x := range []struct {
		h     uint32
		slots int64
		want  int64
	}{
		{9, wide, 9}, {1<<32 - 1, wide, wide - 1}, {1<<32 - 1, wide - 1, 0}, {1<<32 - 2, wide - 1, wide - 2}, {9, wide + 2, 9}, {1<<32 - 1, math.MaxInt64, wide - 1}, {9, -wide + 2, 0},
	} {
		if got := mix.Home(x.h, int(x.slots)); int64(got) != x.want {
			t.Errorf("Home(%d, %d) = %d; want %d", x.h, x.slots, got, x.want)
		}
	}
}

// P3.2: a home is a slot, and one that counting up from 0, round and round, comes to.
func TestHomesGoRound(t *testing.T) {
	for _, slots := range []int{1, 2, 3, 7, 224, 225, 1000} {
		want := 0
		for h := range uint32(3000) {
			if got := mix.Home(h, slots); got != want {
				t.Fatalf("Home(%d, %d) = %d; want %d", h, slots, got, want)
			}
			if want++; want == slots {
				want = 0
			}
		}
		for _, h := range numbers() {
			if got := mix.Home(h, slots); got < 0 || got >= slots {
				t.Errorf("Home(%d, %d) = %d, which is no slot", h, slots, got)
			}
		}
	}
}

// P3.3: a step with one byte leads from different numbers to different ones: from those that differ in the low bits or in the high bits alone, too.
func TestStepsDiffer(t *testing.T) {
	for _, b := range []byte{0, 1, 46, 97, 127, 128, 255} {
		seen := map[uint32]uint32{}
		for i := range uint32(1 << 16) {
			for _, h := range []uint32{i, i << 16} {
				from, found := seen[mix.Step(h, b)]
				if found && from != h {
					t.Fatalf("a step with %d leads from %d and from %d to %d", b, h, from, mix.Step(h, b))
				}
				seen[mix.Step(h, b)] = h
			}
		}
	}
	for _, h := range numbers() {
		for i := range 32 {
			if mix.Step(h, 46) == mix.Step(h^1<<i, 46) {
				t.Errorf("a step leads from %d and from %d to one number", h, h^1<<i)
			}
		}
	}
}

// P3.3: a number's steps with different bytes lead to different numbers, and each leads back.
func TestStepsOfANumberDiffer(t *testing.T) {
	for _, h := range numbers() {
		seen := map[uint32]bool{}
		for b := range 256 {
			next := mix.Step(h, byte(b))
			seen[next] = true
			if mix.Back(next, byte(b)) != h {
				t.Fatalf("no way back from the step of %d with %d", h, b)
			}
		}
		if len(seen) != 256 {
			t.Errorf("the 256 steps of %d lead to %d numbers", h, len(seen))
		}
	}
}

// P3.3: parts one after the other are the whole, wherever it is cut.
func TestBytesOfParts(t *testing.T) {
	for _, s := range append(slices.Clone(labels), odd...) {
		whole := []byte(s)
		for _, h := range []uint32{0, 7, none, 1<<32 - 1} {
			for at := range len(whole) + 1 {
				if mix.Bytes(mix.Bytes(h, whole[:at]), whole[at:]) != mix.Bytes(h, whole) {
					t.Fatalf("Bytes of %q, cut at %d, from %d", s, at, h)
				}
			}
		}
	}
}

// P3.3: the steps back, the last byte first, lead from what Bytes answers to where it began.
func TestBytesLeadBack(t *testing.T) {
	for _, s := range append(slices.Clone(labels), odd...) {
		h := mix.Bytes(none, []byte(s))
		for i := len(s) - 1; i >= 0; i-- {
			h = mix.Back(h, s[i])
		}
		if h != none {
			t.Errorf("back from Bytes of %q: %d", s, h)
		}
	}
}

// P3.3: names that differ by the case of letters alone have one hash; those of other bytes that lie as far apart have not.
func TestHashesOfEitherCase(t *testing.T) {
	for i := range len(capitals) {
		upper, under := capitals[i:i+1], small[i:i+1]
		if mix.Label(7, upper) != mix.Label(7, under) || mix.Chain([]string{"x" + upper, upper}) != mix.Chain([]string{"X" + under, under}) {
			t.Errorf("the hashes of %q and %q differ", upper, under)
		}
	}
	for _, chain := range chains() {
		var upper, under []string
		for _, label := range chain {
			under = append(under, lower(label))
			upper = append(upper, capital(label))
		}
		if mix.Chain(upper) != mix.Chain(under) || mix.Chain(chain) != mix.Chain(under) {
			t.Errorf("the hash of %q hangs on the case of letters", chain)
		}
	}
	for _, pair := range [][2]string{{"[", "{"}, {"@", "`"}, {"]", "}"}, {"\\", "|"}, {"^", "~"}, {"É", "é"}, {"\xc1", "\xe1"}, {"\u212a", "k"}, {"0", "P"}} {
		if mix.Label(7, pair[0]) == mix.Label(7, pair[1]) {
			t.Errorf("%q and %q have one hash", pair[0], pair[1])
		}
	}
}

// capital answers a text with its letters from a to z as capitals, and its other bytes as they are.
func capital(s string) string {
	b := []byte(s)
	for i, c := range b {
		if at := strings.IndexByte(small, c); at >= 0 {
			b[i] = capitals[at]
		}
	}
	return string(b)
}

// R4: the same arguments have the same answer again, whatever was asked in between.
func TestAnswersHangOnArgumentsAlone(t *testing.T) {
	first := mix.Chain([]string{"www", "a"})
	for _, chain := range chains() {
		mix.Chain(chain)
		mix.Key(first, 1)
		mix.Home(first, len(chain))
	}
	if mix.Chain([]string{"www", "a"}) != first || first != library("a.www.") {
		t.Error("an answer hangs on an earlier one:", first)
	}
}
