package name_test

import (
	"slices"
	"strings"
	"testing"

	"columbarium/api"
	"columbarium/name"
)

const (
	capitals = "ABCDEFGHIJKLMNOPQRSTUVWXYZ"
	small    = "abcdefghijklmnopqrstuvwxyz"
)

// good are labels: of the bytes at the ends of what a label may have, of letters that differ by their case alone, and of the lengths at the end.
var good = []string{
	"a", "A", "b", "Z", "z", "ab", "aB", "www", "WWW", "Example", "org", "!", "~", "@", "[", "`", "{", "-", "/", "\\", "*", "A-_9~!",
	strings.Repeat("x", 62), strings.Repeat("x", 63), strings.Repeat("X", 63), strings.Repeat("~", 63),
}

// bad are texts that are no labels.
var bad = []string{
	"", ".", "..", "a.b", ".a", "a.", " ", "a b", " a", "a ", "\t", "\n", "\x00", "\x1f", "\x7f", "\x80", "\xff", "\xc3", "A\xc3", "\xc1", "\xe1",
	"É", "é", "\u212a", "\u017f", "Σ", "\ufffd", "😀", strings.Repeat("x", 64), strings.Repeat("X", 64), strings.Repeat("x", 255), strings.Repeat("aB.", 1000),
}

// lower answers a text with its letters from A to Z small.
func lower(s string) string {
	b := []byte(s)
	for i, c := range b {
		if at := strings.IndexByte(capitals, c); at >= 0 {
			b[i] = small[at]
		}
	}
	return string(b)
}

// upper answers a text with its letters from a to z large.
func upper(s string) string {
	b := []byte(s)
	for i, c := range b {
		if at := strings.IndexByte(small, c); at >= 0 {
			b[i] = capitals[at]
		}
	}
	return string(b)
}

// mapped answers what a function makes of each label.
func mapped(labels []string, f func(string) string) []string {
	var all []string
	for _, label := range labels {
		all = append(all, f(label))
	}
	return all
}

// isLabel tells word by word whether a text is a label: 1 to 63 bytes from 33 to 126, none of them a dot.
func isLabel(s string) bool {
	for i := range len(s) {
		if s[i] < 33 || s[i] > 126 || s[i] == 46 {
			return false
		}
	}
	return len(s) >= 1 && len(s) <= 63
}

// wire answers word by word what P4.1 has Wire answer.
func wire(labels []string) int {
	return 1 + len(labels) + len(strings.Join(labels, ""))
}

// check answers word by word what P4.1 has Check answer.
func check(labels []string) api.Errno {
	for _, label := range labels {
		if !isLabel(label) {
			return api.ErrName
		}
	}
	if wire(labels) > 255 {
		return api.ErrNameTooLong
	}
	return api.OK
}

// parse answers word by word what P4.2 has Parse answer: a byte at a time.
func parse(s string) ([]string, api.Errno) {
	if s == "." {
		return nil, api.OK
	}
	var labels []string
	label := ""
	for i := range len(s) {
		if s[i] != '.' {
			label += s[i : i+1]
			continue
		}
		labels = append(labels, lower(label))
		label = ""
	}
	// Nothing behind the last dot is a label only where there is no dot.
	if label != "" || len(labels) == 0 {
		labels = append(labels, lower(label))
	}
	if e := check(labels); e != api.OK {
		return nil, e
	}
	return labels, api.OK
}

// shared answers word by word what P4.3 has Shared answer: the most labels in which both end.
func shared(a []string, b []string) int {
	for n := min(len(a), len(b)); n > 0; n-- {
		if slices.Equal(mapped(a[len(a)-n:], lower), mapped(b[len(b)-n:], lower)) {
			return n
		}
	}
	return 0
}

// lists answers slices of up to three elements, names and others, and long ones.
func lists() [][]string {
	all := [][]string{nil, {}, {"mail", "example", "org"}, {"MAIL", "Example", "oRG"}, {"a", "b", "c", "d", "e"}}
	all = append(all, sized(4, 255)...)
	all = append(all, sized(4, 256)...)
	for _, n := range []int{126, 127, 128, 129, 300, 1000} {
		all = append(all, slices.Repeat([]string{"a"}, n), slices.Repeat([]string{"A"}, n), slices.Repeat([]string{""}, n))
	}
	for _, a := range append(slices.Clone(good), bad...) {
		all = append(all, []string{a}, []string{a, a})
		for _, b := range []string{"a", "A", "b", "", ".", "É", "\xff"} {
			all = append(all, []string{a, b}, []string{b, a}, []string{a, b, "org"}, []string{"www", b, a})
		}
	}
	return all
}

// sized answers names of count labels that need want bytes, with their shortest label in each place.
func sized(count int, want int) [][]string {
	var all [][]string
	for at := range count {
		labels := slices.Repeat([]string{strings.Repeat("m", 63)}, count)
		labels[at] = strings.Repeat("m", 63-(wire(labels)-want))
		all = append(all, labels)
	}
	return all
}

// some are names and others that are held against each other.
func some() [][]string {
	all := [][]string{nil}
	for from, n := 0, 0; n < 4; n++ {
		end := len(all)
		for _, tail := range all[from:end] {
			for _, label := range []string{"a", "A", "b", ""} {
				all = append(all, append([]string{label}, tail...))
			}
		}
		from = end
	}
	for _, label := range append(slices.Clone(good), bad...) {
		all = append(all, []string{label}, []string{label, "a"}, []string{"a", label}, []string{upper(label)}, []string{lower(label), "A"})
	}
	return all
}

// texts answers all texts of at most most bytes of an alphabet.
func texts(alphabet string, most int) []string {
	all := []string{""}
	for from, n := 0, 0; n < most; n++ {
		end := len(all)
		for _, s := range all[from:end] {
			for i := range len(alphabet) {
				all = append(all, s+alphabet[i:i+1])
			}
		}
		from = end
	}
	return all
}

// P4.1: lengths that are known.
func TestKnownLengths(t *testing.T) {
	for _, x := range []struct {
		labels []string
		want   int
	}{
		{nil, 1}, {[]string{}, 1}, {[]string{""}, 2}, {[]string{"", ""}, 3}, {[]string{"a"}, 3}, {[]string{"www", "a"}, 7}, {[]string{"mail", "example", "org"}, 18},
		{[]string{"."}, 3}, {[]string{"a.b"}, 5}, {[]string{"é"}, 4}, {[]string{"😀"}, 6}, {[]string{"\xff\xff"}, 4},
		{[]string{strings.Repeat("x", 63)}, 65}, {[]string{strings.Repeat("x", 64)}, 66}, {[]string{strings.Repeat("x", 100000), "a"}, 100004},
		{slices.Repeat([]string{"a"}, 127), 255}, {slices.Repeat([]string{"a"}, 128), 257}, {slices.Repeat([]string{""}, 100000), 100001},
	} {
		if got := name.Wire(x.labels); got != x.want {
			t.Errorf("Wire(%q) = %d; want %d", x.labels, got, x.want)
		}
	}
}

// P4.1: the length of names and of slices that are no names: each element counts, be it a label or not.
func TestWire(t *testing.T) {
	for _, labels := range lists() {
		if got, want := name.Wire(labels), wire(labels); got != want {
			t.Errorf("Wire(%q) = %d; want %d", labels, got, want)
		}
	}
}

// P4.1: names, the root among them.
func TestCheckNames(t *testing.T) {
	names := [][]string{
		nil, {}, {"a"}, {"mail", "example", "org"}, {"A", "B"}, {"A-_9~!"}, slices.Repeat([]string{"a"}, 127), {strings.Repeat("x", 63)},
		{strings.Repeat("x", 63), strings.Repeat("y", 63), strings.Repeat("z", 63), strings.Repeat("w", 61)},
	}
	for _, labels := range append(names, sized(4, 255)...) {
		if e := name.Check(labels); e != api.OK {
			t.Errorf("Check(%q) = %d; want OK", labels, e)
		}
	}
}

// P4.1: an element that is no label makes it no name, in whichever place.
func TestCheckElements(t *testing.T) {
	for _, label := range bad {
		for at := range 3 {
			labels := []string{"mail", "example", "org"}
			labels[at] = label
			if e := name.Check(labels); e != api.ErrName {
				t.Errorf("Check(%q) = %d; want ErrName", labels, e)
			}
		}
		if e := name.Check([]string{label}); e != api.ErrName {
			t.Errorf("Check(%q) = %d; want ErrName", label, e)
		}
	}
}

// P4.1: each byte alone and within a label.
func TestCheckEachByte(t *testing.T) {
	for c := range 256 {
		b := string([]byte{byte(c)})
		for _, labels := range [][]string{{b}, {"a", b}, {b, "a"}, {"a" + b}, {b + "a"}, {"a" + b + "a", "org"}} {
			if got, want := name.Check(labels), check(labels); got != want {
				t.Errorf("Check(%q) = %d; want %d", labels, got, want)
			}
		}
	}
}

// P4.1: labels whose length with their own bytes and the root's is greater than 255 are too long.
func TestCheckTooLong(t *testing.T) {
	long := [][]string{
		slices.Repeat([]string{"a"}, 128), slices.Repeat([]string{"A"}, 129), slices.Repeat([]string{"ab"}, 85), slices.Repeat([]string{"a"}, 100000),
		slices.Repeat([]string{strings.Repeat("x", 63)}, 4), append(slices.Repeat([]string{"a"}, 126), "ab", "a"), append(slices.Repeat([]string{"a"}, 126), "bc"),
	}
	for _, labels := range append(long, sized(4, 256)...) {
		if e := name.Check(labels); e != api.ErrNameTooLong {
			t.Errorf("Check(%q) = %d; want ErrNameTooLong", labels, e)
		}
	}
}

// P4.1: of both errors the element that is no label is told, in whichever place.
func TestCheckOrder(t *testing.T) {
	for _, label := range bad {
		for _, at := range []int{0, 1, 100, 127, 128, 199} {
			labels := slices.Repeat([]string{"a"}, 200)
			labels[at] = label
			if e := name.Check(labels); e != api.ErrName {
				t.Errorf("Check of 200 labels, %q the one at %d, = %d; want ErrName", label, at, e)
			}
		}
	}
}

// P4.1: names and slices that are no names.
func TestCheck(t *testing.T) {
	for _, labels := range lists() {
		if got, want := name.Check(labels), check(labels); got != want {
			t.Errorf("Check(%q) = %d; want %d", labels, got, want)
		}
	}
}

// P4.2: texts whose labels are known.
func TestKnownTexts(t *testing.T) {
	for _, x := range []struct {
		s    string
		want []string
	}{
		{".", nil}, {"a", []string{"a"}}, {"a.", []string{"a"}}, {"A", []string{"a"}}, {"WWW.a.", []string{"www", "a"}},
		{"Mail.Example.Org.", []string{"mail", "example", "org"}}, {"Mail.Example.Org", []string{"mail", "example", "org"}},
		{"@Z[`z{.A-_9~!", []string{"@z[`z{", "a-_9~!"}}, {"1.02.0", []string{"1", "02", "0"}}, {"a.a.a.", []string{"a", "a", "a"}},
		{strings.Repeat("X", 63) + ".y", []string{strings.Repeat("x", 63), "y"}},
	} {
		if got, e := name.Parse(x.s); e != api.OK || !slices.Equal(got, x.want) {
			t.Errorf("Parse(%q) = %q, %d; want %q", x.s, got, e, x.want)
		}
	}
}

// P4.2: texts that are no names, beside whose error there are no labels.
func TestTextsOfNoNames(t *testing.T) {
	none := []string{
		"", "..", "...", "....", "a..", "a..b", "a..b.", ".a", ".a.", "..a", "a...", "a. .b", " ", " .", ". ", " a", "a ", "a b", "a.b c", "a.b\n", "\x00", "\x00.", "a\x7f.b", "a.\x80", "\xff.a", "é.org", "org.é", "\u212a", "a\u3002b",
		strings.Repeat("x", 64), strings.Repeat("x", 64) + ".", "a." + strings.Repeat("x", 64) + ".b", strings.Repeat("x", 255), strings.Repeat("a.", 200) + ".", strings.Repeat("a.", 200) + "\xff", "." + strings.Repeat("a.", 200), strings.Repeat(".", 100000),
	}
	for _, s := range none {
		if got, e := name.Parse(s); e != api.ErrName || len(got) != 0 {
			t.Errorf("Parse(%q) = %q, %d; want ErrName", s, got, e)
		}
	}
}

// P4.2: texts at the end of a name's length, with a last dot and without.
func TestTextsTooLong(t *testing.T) {
	for _, x := range []struct {
		labels []string
		want   api.Errno
	}{
		{slices.Repeat([]string{"a"}, 127), api.OK}, {slices.Repeat([]string{"a"}, 128), api.ErrNameTooLong}, {slices.Repeat([]string{"b"}, 50000), api.ErrNameTooLong},
		{append(slices.Repeat([]string{"a"}, 126), "bc"), api.ErrNameTooLong}, {sized(4, 255)[0], api.OK}, {sized(4, 255)[3], api.OK}, {sized(4, 256)[0], api.ErrNameTooLong}, {sized(4, 256)[3], api.ErrNameTooLong},
	} {
		s := strings.Join(x.labels, ".")
		for _, s := range []string{s, s + ".", upper(s), upper(s) + "."} {
			got, e := name.Parse(s)
			if e != x.want || e == api.OK && !slices.Equal(got, x.labels) || e != api.OK && len(got) != 0 {
				t.Errorf("Parse(%q) = %q, %d; want error %d", s, got, e, x.want)
			}
		}
	}
}

// P4.2: every short text of letters, dots and bytes that no label has.
func TestShortTexts(t *testing.T) {
	all := append(texts("aB.", 8), texts("Zz. \x80~", 5)...)
	for c := range 256 {
		b := string([]byte{byte(c)})
		all = append(all, b, "a"+b, b+"a", "a."+b, b+".a", "A"+b+"A.", b+b)
	}
	for _, s := range all {
		got, e := name.Parse(s)
		if want, f := parse(s); e != f || !slices.Equal(got, want) {
			t.Errorf("Parse(%q) = %q, %d; want %q, %d", s, got, e, want, f)
		}
	}
}

// P4.2: names whose texts are known: labels stand in them unchanged.
func TestKnownNames(t *testing.T) {
	for _, x := range []struct {
		labels []string
		want   string
	}{
		{nil, "."}, {[]string{}, "."}, {[]string{"a"}, "a"}, {[]string{"A"}, "A"}, {[]string{"mail", "example", "org"}, "mail.example.org"},
		{[]string{"MAIL", "Example", "oRG"}, "MAIL.Example.oRG"}, {[]string{"A-_9~!", "z"}, "A-_9~!.z"}, {[]string{"a", "a", "a"}, "a.a.a"},
		{slices.Repeat([]string{"a"}, 127), strings.Repeat("a.", 126) + "a"},
	} {
		if got, e := name.Text(x.labels); e != api.OK || got != x.want {
			t.Errorf("Text(%q) = %q, %d; want %q", x.labels, got, e, x.want)
		}
	}
}

// P4.2: the text of names, and the error of slices that are no names, beside which there is no text.
func TestText(t *testing.T) {
	for _, labels := range lists() {
		want, e := "", check(labels)
		if e == api.OK {
			want = strings.Join(labels, ".")
		}
		if e == api.OK && len(labels) == 0 {
			want = "."
		}
		if got, f := name.Text(labels); got != want || f != e {
			t.Errorf("Text(%q) = %q, %d; want %q, %d", labels, got, f, want, e)
		}
	}
}

// P4.3: numbers of shared labels that are known.
func TestKnownShared(t *testing.T) {
	for _, x := range []struct {
		a, b []string
		want int
	}{
		{nil, nil, 0}, {nil, []string{"a"}, 0}, {[]string{"a"}, []string{}, 0}, {[]string{"a"}, []string{"a"}, 1}, {[]string{"a"}, []string{"b"}, 0},
		{[]string{"mail", "example", "org"}, []string{"x", "ORG"}, 1}, {[]string{"www", "a"}, []string{"b", "a"}, 1},
		{[]string{"mail", "example", "org"}, []string{"MAIL", "x", "ORG"}, 1}, {[]string{"a", "b"}, []string{"b", "a"}, 0}, {[]string{"a", "b"}, []string{"a"}, 0},
		{[]string{"a", "b"}, []string{"A", "B"}, 2}, {[]string{"x", "a", "b"}, []string{"A", "B"}, 2}, {[]string{"ab"}, []string{"b"}, 0}, {[]string{"a.b"}, []string{"b"}, 0},
		{[]string{"", ""}, []string{""}, 1}, {[]string{"É"}, []string{"é"}, 0}, {[]string{"É"}, []string{"É"}, 1}, {[]string{"\u212a"}, []string{"k"}, 0}, {[]string{"["}, []string{"{"}, 0},
		{slices.Repeat([]string{"a"}, 300), slices.Repeat([]string{"A"}, 299), 299},
	} {
		if got := name.Shared(x.a, x.b); got != x.want {
			t.Errorf("Shared(%q, %q) = %d; want %d", x.a, x.b, got, x.want)
		}
	}
}

// P4.3: any two, names or not, share the most labels in which both end, and one is below the other if it ends in all of the other's labels.
func TestSharedAndBelow(t *testing.T) {
	all := some()
	for _, a := range all {
		for _, b := range all {
			want := shared(a, b)
			if got := name.Shared(a, b); got != want {
				t.Fatalf("Shared(%q, %q) = %d; want %d", a, b, got, want)
			}
			if got := name.Below(a, b); got != (want == len(b)) {
				t.Fatalf("Below(%q, %q) = %t", a, b, got)
			}
		}
	}
}

// P4.3: what is below what, where it is known.
func TestKnownBelow(t *testing.T) {
	for _, x := range []struct {
		a, b []string
		want bool
	}{
		{nil, nil, true}, {[]string{}, nil, true}, {[]string{"a"}, nil, true}, {nil, []string{"a"}, false}, {nil, []string{""}, false},
		{[]string{"mail", "example", "org"}, []string{"org"}, true}, {[]string{"mail", "example", "org"}, []string{"EXAMPLE", "Org"}, true},
		{[]string{"Mail", "example", "org"}, []string{"mAIL", "Example", "ORG"}, true}, {[]string{"org"}, []string{"example", "org"}, false},
		{[]string{"mail", "example", "org"}, []string{"mail"}, false}, {[]string{"mail", "example", "org"}, []string{"example"}, false},
		{[]string{"mail", "example", "org"}, []string{"mail", "org"}, false}, {[]string{"xorg"}, []string{"org"}, false}, {[]string{"", "."}, []string{"."}, true},
	} {
		if got := name.Below(x.a, x.b); got != x.want {
			t.Errorf("Below(%q, %q) = %t; want %t", x.a, x.b, got, x.want)
		}
	}
}

// P4.3: the suffixes of a name, the longest one first, and of slices that are no names.
func TestSuffixes(t *testing.T) {
	known := name.Suffixes([]string{"Mail", "example", "org"})
	if !slices.EqualFunc(known, [][]string{{"Mail", "example", "org"}, {"example", "org"}, {"org"}}, slices.Equal[[]string]) {
		t.Errorf("the suffixes of Mail.example.org are %q", known)
	}
	for _, labels := range lists() {
		all := name.Suffixes(labels)
		if len(all) != len(labels) {
			t.Fatalf("%q has %d suffixes", labels, len(all))
		}
		for i, suffix := range all {
			if !slices.Equal(suffix, labels[i:]) {
				t.Fatalf("suffix %d of %q is %q", i, labels, suffix)
			}
		}
	}
}

// P4.3, R3: the suffixes share no memory with the argument and none among them, and nothing can be appended to them in place.
func TestSuffixesAreNew(t *testing.T) {
	for n := range 40 {
		labels := slices.Repeat([]string{"a"}, n)
		all := name.Suffixes(labels)
		for i, suffix := range all {
			if cap(suffix) != len(suffix) {
				t.Errorf("suffix %d of %d labels has room for %d", i, n, cap(suffix)-len(suffix))
			}
			for j := range suffix {
				suffix[j] = "changed"
			}
			for _, later := range all[i+1:] {
				if slices.Contains(later, "changed") {
					t.Fatalf("suffix %d of %d labels shares memory", i, n)
				}
			}
		}
		if slices.Contains(labels, "changed") {
			t.Fatalf("suffixes of %d labels share memory with these", n)
		}
	}
}

// P4.4: the text of what a text is parsed as is parsed as the same labels.
func TestTextOfParsed(t *testing.T) {
	all := append(texts("aB.", 8), ".", "Mail.Example.Org.", "@Z[`z{.A-_9~!", strings.Repeat("A.", 127), strings.Repeat("a.", 126)+"Z")
	for _, labels := range append(sized(4, 255), lists()...) {
		all = append(all, strings.Join(labels, "."))
	}
	parsed := 0
	for _, s := range all {
		labels, e := name.Parse(s)
		if e != api.OK {
			continue
		}
		parsed++
		again, e := name.Text(labels)
		if e != api.OK {
			t.Fatalf("Text(%q) = %d", labels, e)
		}
		if got, e := name.Parse(again); e != api.OK || !slices.Equal(got, labels) {
			t.Errorf("%q is parsed as %q, whose text %q as %q, %d", s, labels, again, got, e)
		}
	}
	if parsed < 100 {
		t.Errorf("%d texts of %d are names", parsed, len(all))
	}
}

// P4.4: names that are equal but for the case of letters share all their labels, and each is below the other.
func TestEqualNames(t *testing.T) {
	names := 0
	for _, labels := range append(some(), lists()...) {
		if check(labels) != api.OK {
			continue
		}
		names++
		for _, other := range [][]string{labels, mapped(labels, lower), mapped(labels, upper)} {
			if name.Shared(labels, other) != len(labels) || name.Shared(other, labels) != len(labels) || !name.Below(labels, other) || !name.Below(other, labels) {
				t.Errorf("%q and %q are equal but for case", labels, other)
			}
		}
	}
	if names < 100 {
		t.Errorf("%d names", names)
	}
}

// P4.4: the example of the chapter.
func TestExample(t *testing.T) {
	labels, e := name.Parse("WWW.a.")
	if e != api.OK || !slices.Equal(labels, []string{"www", "a"}) || name.Wire(labels) != 7 {
		t.Errorf("WWW.a. is parsed as %q, %d", labels, e)
	}
	if n := name.Shared(labels, []string{"b", "a"}); n != 1 {
		t.Errorf("with b.a it shares %d", n)
	}
	if _, e := name.Parse("a..b"); e != api.ErrName {
		t.Errorf("a..b: %d", e)
	}
}

// R3: arguments are not changed, be there room behind them or not.
func TestArgumentsStay(t *testing.T) {
	for _, n := range []int{0, 1, 3, 127, 128} {
		behind := append(slices.Repeat([]string{"Ab"}, n), "behind", "it")
		labels, same := behind[:n], slices.Clone(behind)
		name.Check(labels)
		name.Wire(labels)
		name.Text(labels)
		name.Shared(labels, []string{"AB"})
		name.Shared([]string{"AB"}, labels)
		name.Below(labels, []string{"AB"})
		name.Below([]string{"AB"}, labels)
		for _, suffix := range name.Suffixes(labels) {
			_ = append(suffix, "more")
		}
		if !slices.Equal(behind, same) {
			t.Errorf("%d labels are changed: %q", n, behind)
		}
	}
}

// R3: the labels of a text are new memory at each call.
func TestLabelsAreNew(t *testing.T) {
	a, _ := name.Parse("www.a")
	b, _ := name.Parse("www.a")
	a[0], a[1] = "x", "y"
	c, _ := name.Parse("www.a")
	if !slices.Equal(b, []string{"www", "a"}) || !slices.Equal(c, []string{"www", "a"}) {
		t.Errorf("after a change: %q and %q", b, c)
	}
}

// R4, R7: answers hang on the arguments alone, not on what was asked before and not on what stands behind a slice's end.
func TestAnswersHangOnArguments(t *testing.T) {
	for _, labels := range lists() {
		behind := append(slices.Clone(labels), "behind", "")[:len(labels)]
		s, e := name.Text(labels)
		name.Parse(strings.Repeat("z.", 128))
		name.Text([]string{""})
		if again, f := name.Text(behind); again != s || f != e {
			t.Errorf("Text(%q) = %q, %d; before %q, %d", labels, again, f, s, e)
		}
		if name.Check(behind) != name.Check(labels) || name.Wire(behind) != name.Wire(labels) || len(name.Suffixes(behind)) != len(labels) {
			t.Errorf("%q: what stands behind its end counts", labels)
		}
		if name.Shared(behind, labels) != len(labels) || !name.Below(behind, labels) {
			t.Errorf("%q does not share all of its labels with itself", labels)
		}
	}
}
