package fold_test

import (
	"slices"
	"strings"
	"testing"

	"columbarium/api"
	"columbarium/fold"
)

const (
	capitals = "ABCDEFGHIJKLMNOPQRSTUVWXYZ"
	small    = "abcdefghijklmnopqrstuvwxyz"
)

// odd are texts that hold runes with another case, bytes that are no rune, and bytes beside the letters.
var odd = []string{
	"", "\x00", " ", ".", "@", "[", "`", "{", "\x7f", "\x80", "\xc1", "\xff", "\xc3", "\x89", "\xc3A", "\xe2\x84",
	"É", "é", "Ä", "ä", "\u212a", "k", "K", "\u017f", "s", "S", "\u0130", "\u0131", "i", "I", "Σ", "σ", "ς", "ß", "ẞ", "\ufffd", "😀",
}

// letter answers a byte as the promise has it: one of the 26 capitals becomes the small letter in its place.
func letter(c byte) byte {
	if i := strings.IndexByte(capitals, c); i >= 0 {
		return small[i]
	}
	return c
}

// lower answers a text in small letters, word by word as P2.1 has it.
func lower(s string) string {
	var b []byte
	for i := range len(s) {
		b = append(b, letter(s[i]))
	}
	return string(b)
}

// label tells whether a text is a label, word by word as P2.2 has it.
func label(s string) api.Errno {
	if len(s) < 1 || len(s) > 63 {
		return api.ErrName
	}
	for i := range len(s) {
		if s[i] < 33 || s[i] > 126 || s[i] == 46 {
			return api.ErrName
		}
	}
	return api.OK
}

// common counts the bytes with which both begin, word by word as P2.3 has it.
func common(a string, b string) int {
	n := 0
	for n < len(a) && n < len(b) && letter(a[n]) == letter(b[n]) {
		n++
	}
	return n
}

// allBytes answers every byte as a text of its own.
func allBytes() []string {
	var all []string
	for c := range 256 {
		all = append(all, string([]byte{byte(c)}))
	}
	return all
}

// short answers all texts of at most most bytes of an alphabet.
func short(alphabet string, most int) []string {
	all := []string{""}
	for from, n := 0, 0; n < most; n++ {
		end := len(all)
		for _, s := range all[from:end] {
			for i := range len(alphabet) {
				all = append(all, s+alphabet[i:i+1])
			}
		}
		from = end
	}
	return all
}

// texts answers short texts of letters of both cases, of bytes beside them and of bytes above them, and the odd ones.
func texts() []string {
	return append(short("aAzZ@[_.\x00\xc3\xff", 2), odd...)
}

// P2.1: the examples of the chapter.
func TestExamplesOfLower(t *testing.T) {
	for _, x := range []struct{ s, want string }{
		{"WWW.Example-9[", "www.example-9["}, {"Ab-Z", "ab-z"}, {"", ""}, {capitals, small}, {small, small}, {capitals + small, small + small},
	} {
		if got := fold.Lower(x.s); got != x.want {
			t.Errorf("Lower(%q) = %q; want %q", x.s, got, x.want)
		}
	}
}

// P2.1: each byte alone, and at each end and in the midst of others.
func TestLowerOfEachByte(t *testing.T) {
	for c, s := range allBytes() {
		want := string([]byte{letter(byte(c))})
		for _, around := range []struct{ ahead, behind string }{{"", ""}, {"a", ""}, {"", "a"}, {"x9", "-y"}, {"\xc3", "\xc3"}, {"é", "é"}} {
			if got := fold.Lower(around.ahead + s + around.behind); got != around.ahead+want+around.behind {
				t.Errorf("Lower(%q) = %q; want %q", around.ahead+s+around.behind, got, around.ahead+want+around.behind)
			}
		}
	}
}

// P2.1: a byte is no rune: those of runes with another case, and those that are no rune, stay what they are.
func TestLowerLeavesOtherBytes(t *testing.T) {
	for _, s := range odd {
		if got := fold.Lower(s); got != lower(s) {
			t.Errorf("Lower(%q) = %q; want %q", s, got, lower(s))
		}
		if got := fold.Lower("Q" + s + "Q"); got != "q"+lower(s)+"q" {
			t.Errorf("Lower(%q) = %q; want %q", "Q"+s+"Q", got, "q"+lower(s)+"q")
		}
	}
	for _, s := range []string{"É", "Ä", "\u212a", "\u0130", "Σ", "ẞ", "\xc1\xda", "\xff\xfe", "\xe2\x84", "\x00"} {
		if got := fold.Lower(s); got != s {
			t.Errorf("Lower(%q) = %q; want no change", s, got)
		}
	}
}

// P2.1: a text may be longer than any name.
func TestLowerOfLongTexts(t *testing.T) {
	for _, n := range []int{63, 64, 255, 256, 65536, 1 << 20} {
		if fold.Lower(strings.Repeat("Z", n)) != strings.Repeat("z", n) {
			t.Errorf("Lower of %d bytes", n)
		}
	}
}

// P2.1: Same of each pair of bytes.
func TestSameOfEachPairOfBytes(t *testing.T) {
	for c, a := range allBytes() {
		for d, b := range allBytes() {
			want := letter(byte(c)) == letter(byte(d))
			if fold.Same(a, b) != want {
				t.Errorf("Same(%q, %q) = %t", a, b, !want)
			}
			if fold.Same("m"+a+"M", "M"+b+"m") != want {
				t.Errorf("Same within others of %q, %q = %t", a, b, !want)
			}
		}
	}
}

// P2.1: Same tells of the whole texts: of their lengths, and of their first, midmost and last bytes.
func TestSameOfTexts(t *testing.T) {
	long := strings.Repeat("aB", 200)
	for _, x := range []struct {
		a, b string
		want bool
	}{
		{"aB", "Ab", true}, {"a", "ab", false}, {"", "", true}, {"", "a", false}, {"", "\x00", false}, {"a", "a\x00", false},
		{capitals, small, true}, {"xbcde", "abcde", false}, {"abxde", "abcde", false}, {"abcdx", "ABCDE", false}, {"ab", "ba", false},
		{"k", "\u212a", false}, {"S", "\u017f", false}, {"É", "é", false}, {"\xc3", "\xe3", false}, {"\xff", "\ufffd", false}, {"\xff", "\xfe", false},
		{"[", "{", false}, {"@", "`", false}, {"^", "~", false}, {long, strings.ToUpper(long), true}, {long, long[:399] + "c", false}, {long, long[1:], false},
	} {
		if fold.Same(x.a, x.b) != x.want || fold.Same(x.b, x.a) != x.want {
			t.Errorf("Same(%q, %q) isn't %t", x.a, x.b, x.want)
		}
	}
	for _, a := range texts() {
		for _, b := range texts() {
			if want := lower(a) == lower(b); fold.Same(a, b) != want {
				t.Errorf("Same(%q, %q) = %t", a, b, !want)
			}
		}
	}
}

// P2.1: Compare of each pair of bytes, the greatest of them above the letters.
func TestCompareOfEachPairOfBytes(t *testing.T) {
	for c, a := range allBytes() {
		for d, b := range allBytes() {
			want := 0
			if letter(byte(c)) < letter(byte(d)) {
				want = -1
			} else if letter(byte(c)) > letter(byte(d)) {
				want = 1
			}
			if got := fold.Compare(a, b); got != want {
				t.Errorf("Compare(%q, %q) = %d; want %d", a, b, got, want)
			}
			if got := fold.Compare("x"+a+"b", "X"+b+"B"); got != want {
				t.Errorf("Compare within others of %q, %q = %d; want %d", a, b, got, want)
			}
		}
	}
}

// P2.1: the first byte that differs decides, of whatever length they are; else the shorter one is less.
func TestCompareOfTexts(t *testing.T) {
	long := strings.Repeat("aB", 200)
	for _, x := range []struct {
		a, b string
		want int
	}{
		{"a", "AB", -1}, {"Z", "a", 1}, {"B", "a", 1}, {"", "", 0}, {"", "a", -1}, {"", "\x00", -1}, {"a", "a\x00", -1}, {"aB", "Ab", 0},
		{"a", "B", -1}, {"b", "AAAA", 1}, {"ab", "b", -1}, {"abc", "abD", -1}, {"aZa", "aAz", 1}, {"abcdefgh", "a", 1}, {"A", "abcdefgh", -1},
		{"A", "_", 1}, {"a", "_", 1}, {"A", "[", 1}, {"Z", "`", 1}, {"Z", "{", -1}, {"@", "A", -1}, {"0", "A", -1}, {"-", ".", -1},
		{"z", "\x80", -1}, {"z", "\xff", -1}, {"\x7f", "\x80", -1}, {"\xc3\xa9", "\xc4", -1}, {"É", "é", -1}, {"\xff", "\ufffd", 1},
		{long, strings.ToUpper(long), 0}, {long, long + "a", -1}, {long + "a", long[:399] + "a", 1},
	} {
		if got := fold.Compare(x.a, x.b); got != x.want {
			t.Errorf("Compare(%q, %q) = %d; want %d", x.a, x.b, got, x.want)
		}
		if got := fold.Compare(x.b, x.a); got != -x.want {
			t.Errorf("Compare(%q, %q) = %d; want %d", x.b, x.a, got, -x.want)
		}
	}
	for _, a := range texts() {
		for _, b := range texts() {
			if got, want := fold.Compare(a, b), strings.Compare(lower(a), lower(b)); got != want {
				t.Errorf("Compare(%q, %q) = %d; want %d", a, b, got, want)
			}
		}
	}
}

// P2.2: the examples, and the least and the greatest length.
func TestLabels(t *testing.T) {
	long := strings.Repeat("x", 63)
	for _, s := range []string{"a", "A-_9~!", "!", "~", "-", "_", "\"", "\\", "/", "xn--", long, strings.Repeat("~", 63), strings.Repeat("!", 62)} {
		if e := fold.Label(s); e != api.OK {
			t.Errorf("Label(%q) = %d; want OK", s, e)
		}
	}
	for _, s := range []string{
		"", ".", "..", "a.b", "a.", ".a", "a ", " a", "a b", " ", "\t", "a\n", "\x7f", "a\x00", "\x00",
		long + "x", long + ".", long[:62] + ".", "." + long[:62], long[:62] + " ", strings.Repeat("x", 127), strings.Repeat("x", 255), strings.Repeat("x", 256), strings.Repeat("x", 257), strings.Repeat("x", 65537),
	} {
		if e := fold.Label(s); e != api.ErrName {
			t.Errorf("Label(%q) = %d; want ErrName", s, e)
		}
	}
}

// P2.2: each byte at each place of a label of each length, and labels of each length by themselves.
func TestLabelOfEachByte(t *testing.T) {
	for n := range 70 {
		s := strings.Repeat("m", n)
		if e := fold.Label(s); e != label(s) {
			t.Errorf("Label of %d letters = %d; want %d", n, e, label(s))
		}
		for at := range n {
			for _, c := range allBytes() {
				s := s[:at] + c + s[at+1:]
				if e := fold.Label(s); e != label(s) {
					t.Fatalf("Label(%q) = %d; want %d", s, e, label(s))
				}
			}
		}
	}
}

// P2.2: no rune beside those of one byte is in a label, and neither is a byte that is no rune.
func TestLabelTakesNoOtherRunes(t *testing.T) {
	for _, s := range []string{"é", "aé", "éa", "aéa", "\u212a", "\u0080", "\u00a1", "\u0161", "\u2041", "\uff21", "\ufffd", "😀", "\U00010041", "\xc3", "\xa9", "\xa9\xc3", "a\xff", "\xc1\x81", "\xe0\x81\x81", "\xed\xa0\x80"} {
		if e := fold.Label(s); e != api.ErrName {
			t.Errorf("Label(%q) = %d; want ErrName", s, e)
		}
	}
	for c := range rune(0x11000) {
		want := api.ErrName
		if c >= 33 && c <= 126 && c != 46 {
			want = api.OK
		}
		if e := fold.Label(string([]rune{c})); e != want {
			t.Errorf("Label of the rune %d = %d; want %d", c, e, want)
		}
	}
}

// P2.3: how many bytes, not runes, are common, up to the first that differ.
func TestCommon(t *testing.T) {
	long := strings.Repeat("aB", 200)
	for _, x := range []struct {
		a, b string
		want int
	}{
		{"abC", "ABd", 2}, {"", "", 0}, {"", "a", 0}, {"a", "A", 1}, {"a", "b", 0}, {"a", "AB", 1}, {"aBc", "AbC", 3}, {"xbc", "ybc", 0},
		{"axcx", "aycx", 1}, {"abcabc", "abcxbc", 3}, {"\x00\x00", "\x00", 1}, {"é", "è", 1}, {"É", "é", 1}, {"é", "é", 2}, {"\u212a", "k", 0},
		{"[", "{", 0}, {"a@", "a`", 1}, {"\xff", "\ufffd", 0}, {"\xc1", "\xe1", 0},
		{long, strings.ToUpper(long), 400}, {long, long + "z", 400}, {long, long[:399] + "z", 399}, {long, "x" + long, 0}, {capitals, small, 26},
	} {
		if got := fold.Common(x.a, x.b); got != x.want {
			t.Errorf("Common(%q, %q) = %d; want %d", x.a, x.b, got, x.want)
		}
		if got := fold.Common(x.b, x.a); got != x.want {
			t.Errorf("Common(%q, %q) = %d; want %d", x.b, x.a, got, x.want)
		}
	}
	for _, a := range texts() {
		for _, b := range texts() {
			if got := fold.Common(a, b); got != common(a, b) {
				t.Errorf("Common(%q, %q) = %d; want %d", a, b, got, common(a, b))
			}
		}
	}
}

// P2.3: Common of each pair of bytes, behind one that is common.
func TestCommonOfEachPairOfBytes(t *testing.T) {
	for _, a := range allBytes() {
		for _, b := range allBytes() {
			if got, want := fold.Common("a"+a, "A"+b), common("a"+a, "A"+b); got != want {
				t.Errorf("Common(%q, %q) = %d; want %d", "a"+a, "A"+b, got, want)
			}
		}
	}
}

// P2.4: what is in small letters stays so, and is as long as before.
func TestLowerOfLower(t *testing.T) {
	for _, s := range append(texts(), allBytes()...) {
		once := fold.Lower(s)
		if fold.Lower(once) != once || len(once) != len(s) || !fold.Same(s, once) {
			t.Errorf("Lower(%q) = %q, and of that %q", s, once, fold.Lower(once))
		}
	}
}

// P2.4: texts that are the same have the same length, are both labels or neither, and compare alike with any other.
func TestSameTextsAreAlike(t *testing.T) {
	all := append(short("aA[.\xc3", 2), odd...)
	pairs := 0
	for _, a := range all {
		for _, b := range all {
			if fold.Same(a, b) != (fold.Compare(a, b) == 0) || fold.Same(a, b) != (fold.Lower(a) == fold.Lower(b)) {
				t.Errorf("Same, Compare and Lower of %q, %q differ", a, b)
			}
			if !fold.Same(a, b) {
				continue
			}
			if a != b {
				pairs++
			}
			if len(a) != len(b) || fold.Label(a) != fold.Label(b) || fold.Common(a, b) != len(a) {
				t.Errorf("%q and %q are the same, but not alike", a, b)
			}
			for _, c := range all {
				if fold.Compare(a, c) != fold.Compare(b, c) || fold.Compare(c, a) != fold.Compare(c, b) || fold.Common(a, c) != fold.Common(b, c) {
					t.Errorf("%q and %q are the same, but compare otherwise with %q", a, b, c)
				}
			}
		}
	}
	if pairs == 0 {
		t.Error("no two texts are the same")
	}
}

// P2.4: Compare is a total order of the texts in small letters.
func TestCompareIsATotalOrder(t *testing.T) {
	all := append(short("aB_\xff", 2), odd...)
	for _, a := range all {
		if fold.Compare(a, a) != 0 {
			t.Errorf("%q isn't itself", a)
		}
		for _, b := range all {
			if fold.Compare(a, b) != -fold.Compare(b, a) {
				t.Errorf("%q and %q are both ahead", a, b)
			}
			for _, c := range all {
				if fold.Compare(a, b) <= 0 && fold.Compare(b, c) <= 0 && fold.Compare(a, c) > 0 {
					t.Errorf("%q is ahead of %q, this one of %q, but not the first one", a, b, c)
				}
			}
		}
	}
	slices.SortStableFunc(all, fold.Compare)
	for i := 1; i < len(all); i++ {
		if lower(all[i-1]) > lower(all[i]) {
			t.Errorf("%q is sorted ahead of %q", all[i-1], all[i])
		}
	}
}

// R4: the same arguments have the same answer again, whatever was asked in between.
func TestAnswersHangOnArgumentsAlone(t *testing.T) {
	first := fold.Lower("AbC")
	for _, s := range odd {
		fold.Lower(s)
		fold.Label(s)
		fold.Compare(s, "AbC")
	}
	if first != "abc" || fold.Lower("AbC") != first || fold.Label("AbC") != api.OK || fold.Common("AbC", "aBd") != 2 {
		t.Error("an answer hangs on an earlier one:", first)
	}
}
