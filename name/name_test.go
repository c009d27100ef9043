package name_test

import (
	"iter"
	"math/rand"
	"regexp"
	"slices"
	"strings"
	"testing"

	"fermata/api"
	"fermata/name"
)

// form is what the document says the form of a name is, but for its size.
var form = regexp.MustCompile(`\A[a-z]([a-z0-9-]*[a-z0-9])?(\.[a-z0-9]([a-z0-9-]*[a-z0-9])?)*\z`)

// isName reports whether a string is a name by the document.
func isName(s string) bool { return len(s) <= 32 && form.MatchString(s) }

// order is the order of names by the document: that of the lists of their parts.
func order(a, b string) int { return slices.Compare(strings.Split(a, "."), strings.Split(b, ".")) }

// isUnder reports by the document whether a name is under another one: whether this is all of its first parts.
func isUnder(s, above string) bool {
	l, first := strings.Split(s, "."), strings.Split(above, ".")
	return len(l) >= len(first) && slices.Equal(l[:len(first)], first)
}

// isSet reports by the document whether a set is right.
func isSet(l []string) bool {
	for i := range l {
		if !isName(l[i]) || i > 0 && order(l[i-1], l[i]) >= 0 {
			return false
		}
	}
	return len(l) <= 256
}

// placeOf is where a name is in a right set, or would be added, found one by one.
func placeOf(l []string, s string) (int, bool) {
	for i, other := range l {
		if c := order(other, s); c >= 0 {
			return i, c == 0
		}
	}
	return len(l), false
}

// strs yields all strings of bytes of an alphabet that have at most so many bytes.
func strs(alphabet string, most int) iter.Seq[string] {
	var grow func(s string, yield func(string) bool) bool
	grow = func(s string, yield func(string) bool) bool {
		if !yield(s) {
			return false
		}
		for i := 0; i < len(alphabet) && len(s) < most; i++ {
			if !grow(s+alphabet[i:i+1], yield) {
				return false
			}
		}
		return true
	}
	return func(yield func(string) bool) { grow("", yield) }
}

// names returns the names among all strings of an alphabet.
func names(alphabet string, most int) []string {
	var l []string
	for s := range strs(alphabet, most) {
		if isName(s) {
			l = append(l, s)
		}
	}
	return l
}

// long are names with 32 bytes, and what is a byte longer.
var long, longer = []string{
	strings.Repeat("x", 32),
	strings.Repeat("a.", 15) + "bc",
	"a" + strings.Repeat("-", 30) + "0",
	strings.Repeat("a", 15) + "." + strings.Repeat("9", 16),
}, []string{
	strings.Repeat("x", 33),
	strings.Repeat("a.", 16) + "b",
	"a" + strings.Repeat("-", 31) + "0",
	strings.Repeat("a", 16) + "." + strings.Repeat("9", 16),
	strings.Repeat("a", 1000),
	strings.Repeat("a.", 1000) + "a",
}

// right are names with their parts.
var right = []struct {
	s     string
	parts []string
}{
	{"a", []string{"a"}}, {"z", []string{"z"}}, {"a.b", []string{"a", "b"}}, {"a-b.c", []string{"a-b", "c"}}, {"port0.in", []string{"port0", "in"}},
	{"a0", []string{"a0"}}, {"z9", []string{"z9"}}, {"a.0", []string{"a", "0"}}, {"a.9.0", []string{"a", "9", "0"}}, {"a.0-9", []string{"a", "0-9"}}, {"a--b", []string{"a--b"}}, {"a-0.b-1", []string{"a-0", "b-1"}},
	{"a.a.a", []string{"a", "a", "a"}}, {"abcdefghijklmnopqrstuvwxyz", []string{"abcdefghijklmnopqrstuvwxyz"}}, {"a0123456789", []string{"a0123456789"}},
	{long[0], []string{long[0]}}, {long[2], []string{long[2]}}, {long[3], []string{long[3][:15], long[3][16:]}},
}

// wrong are strings that are no names.
var wrong = append([]string{
	"", "-", "--", "-a", "a-", ".", "..", ".a", "a.", "a..b", "a.b.", "a.-b", "a-.b", "a.b-", "a.-", "a-.", "-.a", "a...b",
	"0", "9", "0a", "9.a", "0.a", "A", "Z", "aB", "a.B", "Ab", "a b", " a", "a ", "a_b", "a/b", "a:b", "a,b", "a`", "a{", "a@", "a[", "`a", "{a", "a\x00", "\x00a", "\x00", "a\n", "\na", "a\r", "a\x7f", "a\x80", "a\xff", "é", "aé", "a\u00ad", "ａ", "a.b c",
}, longer...)

// P4.1

func TestNamesWithTheirParts(t *testing.T) {
	for _, c := range right {
		if !name.Right(c.s) {
			t.Errorf("Right(%q): false", c.s)
		}
		if l, e := name.Parts(c.s); !slices.Equal(l, c.parts) || e != api.OK {
			t.Errorf("Parts(%q): %q %d", c.s, l, e)
		}
		if s, e := name.Join(c.parts); s != c.s || e != api.OK {
			t.Errorf("Join(%q): %q %d", c.parts, s, e)
		}
	}
}

func TestStringsThatAreNoNames(t *testing.T) {
	for _, s := range wrong {
		if name.Right(s) {
			t.Errorf("Right(%q): true", s)
		}
		if l, e := name.Parts(s); len(l) != 0 || e != name.ErrName {
			t.Errorf("Parts(%q): %q %d", s, l, e)
		}
		if j, e := name.Join([]string{s}); j != "" || e != name.ErrName {
			t.Errorf("Join of %q: %q %d", s, j, e)
		}
		if j, e := name.Join(strings.Split(s, ".")); j != "" || e != name.ErrName {
			t.Errorf("Join of what is between the points of %q: %q %d", s, j, e)
		}
	}
	if name.MaxName != 32 || name.ErrName != 40 {
		t.Error(name.MaxName, name.ErrName)
	}
}

func TestEachByteInEachPlace(t *testing.T) {
	for c := range 256 {
		b := string([]byte{byte(c)})
		for _, s := range []string{b, b + "a", "a" + b, "a" + b + "a", "a." + b, "a." + b + "a", "a.a" + b + "a", "a.a" + b, "ab-" + b, "a" + b + ".a"} {
			if name.Right(s) != isName(s) {
				t.Errorf("Right(%q): %v", s, name.Right(s))
			}
		}
	}
}

func TestAllShortStrings(t *testing.T) {
	for s := range strs("az09-.A", 5) {
		is := isName(s)
		if name.Right(s) != is {
			t.Fatalf("Right(%q): %v", s, !is)
		}
		l, e := name.Parts(s)
		between := strings.Split(s, ".")
		j, f := name.Join(between)
		if is && (!slices.Equal(l, between) || j != s || e != api.OK || f != api.OK) {
			t.Fatalf("%q: %q %d, %q %d", s, l, e, j, f)
		}
		if !is && (len(l) != 0 || j != "" || e != name.ErrName || f != name.ErrName) {
			t.Fatalf("%q: %q %d, %q %d", s, l, e, j, f)
		}
	}
}

func TestNamesOfAllSizes(t *testing.T) {
	for size := range 70 {
		for _, s := range []string{strings.Repeat("k", size), ("a" + strings.Repeat(".9", 40))[:size], ("a-" + strings.Repeat("b0", 40))[:size]} {
			if name.Right(s) != isName(s) {
				t.Errorf("Right(%q): %v", s, name.Right(s))
			}
		}
	}
	for _, s := range long {
		if !name.Right(s) || len(s) != 32 {
			t.Errorf("Right(%q): false", s)
		}
	}
}

func TestJoinOfNoParts(t *testing.T) {
	for _, l := range [][]string{nil, {}, {""}, {"", ""}, {"a", ""}, {"", "a"}, {"a", "", "b"}, {"."}, {"a."}, {".a"}, {"a", "."}, {"a.b"}, {"a", "b.c"}, {"a.b", "c"}, {"a", "b.", "c"}, {"a", ".b"},
		{"0"}, {"0", "a"}, {"-"}, {"a", "-"}, {"a", "-b"}, {"a", "b-"}, {"a-", "b"}, {"A"}, {"a", "B"}, {"a", "é"}, {"a", " "},
		{strings.Repeat("x", 16), strings.Repeat("y", 16)}, slices.Repeat([]string{"a"}, 17), slices.Repeat([]string{"a"}, 10000), slices.Repeat([]string{""}, 10000)} {
		if s, e := name.Join(l); s != "" || e != name.ErrName {
			t.Errorf("Join(%q): %q %d", l, s, e)
		}
	}
	if s, e := name.Join(slices.Repeat([]string{"a"}, 16)); s != strings.Repeat("a.", 15)+"a" || e != api.OK {
		t.Error(s, e)
	}
}

func TestJoinOfAllShortLists(t *testing.T) {
	all := slices.Collect(strs("a0-.", 2))
	for _, a := range all {
		for _, b := range all {
			j := a + "." + b
			want, e := j, api.OK
			if !isName(j) || strings.Contains(a+b, ".") {
				want, e = "", name.ErrName
			}
			if s, f := name.Join([]string{a, b}); s != want || f != e {
				t.Fatalf("Join(%q, %q): %q %d", a, b, s, f)
			}
		}
	}
}

// P4.2

// sorted are names in the order of names.
var sorted = []string{"a", "a.0", "a.0.0", "a.0.z", "a.0-0", "a.9", "a.a", "a.a.b", "a.z", "a--b", "a-0", "a-0.a", "a-b", "a-b.c", "a-bb", "a0", "a0.a", "a9", "aa", "aa.a", "ab", "b", "b.a", "ba", "z", "z.z", "z-z", "z0", "zz"}

func TestCompare(t *testing.T) {
	for i, a := range sorted {
		for j, b := range sorted {
			want := 0
			if i < j {
				want = -1
			} else if i > j {
				want = 1
			}
			if c, e := name.Compare(a, b); c != want || e != api.OK {
				t.Errorf("Compare(%q, %q): %d %d", a, b, c, e)
			}
		}
	}
}

func TestCompareOfWhatIsNoName(t *testing.T) {
	for _, s := range wrong {
		for _, other := range []string{"a", "z", "a.b", s, "", "-"} {
			if c, e := name.Compare(s, other); c != 0 || e != name.ErrName {
				t.Errorf("Compare(%q, %q): %d %d", s, other, c, e)
			}
			if c, e := name.Compare(other, s); c != 0 || e != name.ErrName {
				t.Errorf("Compare(%q, %q): %d %d", other, s, c, e)
			}
		}
	}
}

func TestUnder(t *testing.T) {
	for _, c := range []struct {
		s, above string
		is       bool
	}{
		{"a", "a", true}, {"a.b", "a.b", true}, {"a.b.c", "a.b", true}, {"a.b.c", "a", true}, {"a.b", "a", true}, {"a.0", "a", true}, {long[1], "a", true}, {long[1], "a.a.a", true}, {long[0], long[0], true},
		{"a.bc", "a.b", false}, {"a.b", "a.bc", false}, {"a", "a.b", false}, {"a-b", "a", false}, {"ab", "a", false}, {"a0", "a", false}, {"b.a", "a", false}, {"b", "a", false}, {"a.b", "b", false}, {"a.b.c", "b", false}, {"a.b.c", "b.c", false}, {"a-b.c", "a", false}, {long[0], long[0][:31], false},
	} {
		if name.Under(c.s, c.above) != c.is {
			t.Errorf("Under(%q, %q): %v", c.s, c.above, !c.is)
		}
	}
}

func TestUnderWhatIsNoName(t *testing.T) {
	for _, s := range wrong {
		if name.Under(s, s) || name.Under(s, "a") || name.Under("a", s) || name.Under("a.b", s) || name.Under(s+".a", s) {
			t.Errorf("Under: %q", s)
		}
	}
	for _, c := range [][2]string{{"a.", "a"}, {"a..b", "a"}, {"a.B", "a"}, {"a.-b", "a"}, {"a.b-", "a"}, {"a.b", "a."}, {"a.b", ""}, {".a", ""}, {"a." + long[0], "a"}} {
		if name.Under(c[0], c[1]) {
			t.Errorf("Under(%q, %q): true", c[0], c[1])
		}
	}
}

func TestOrderOfAllShortNames(t *testing.T) {
	all := names("az0-.", 4)
	for _, a := range all {
		for _, b := range all {
			if c, e := name.Compare(a, b); c != order(a, b) || e != api.OK {
				t.Fatalf("Compare(%q, %q): %d %d", a, b, c, e)
			}
			if name.Under(a, b) != isUnder(a, b) {
				t.Fatalf("Under(%q, %q): %v", a, b, !isUnder(a, b))
			}
		}
	}
}

// P4.3

// pairs returns that many different names, in their order.
func pairs(size int) []string {
	var l []string
	for a := 'a'; a <= 'z'; a++ {
		for b := 'a'; b <= 'z'; b++ {
			l = append(l, string(a)+"."+string(b))
		}
	}
	return l[:size]
}

// notSets are lists that are no right sets.
var notSets = [][]string{
	{"b", "a"}, {"a", "a"}, {"a", "b", "b"}, {"a", "c", "b"}, {"a-b", "a.b"}, {"a.z", "a.b"}, {"a.b", "a"}, {"a", "b", "a"},
	{""}, {"", "a"}, {"a", ""}, {"A"}, {"a", "b", "C"}, {"-"}, {"0", "a"}, {"a", "a."}, {"a", "a.-"}, {longer[0]}, {"a", longer[1]},
	pairs(257), pairs(600), append(pairs(255), "z", "y"), append(pairs(255), "A"),
}

func TestSet(t *testing.T) {
	for _, l := range [][]string{nil, {}, {"a"}, {"a", "b"}, {"a.b", "a-b"}, {"a", "a.b"}, sorted, sorted[3:9], long[:1], pairs(2), pairs(255), pairs(256)} {
		if !name.Set(l) {
			t.Errorf("Set(%q): false", l)
		}
	}
	for _, l := range notSets {
		if name.Set(l) {
			t.Errorf("Set(%q): true", l)
		}
	}
	if name.MaxSet != 256 || name.ErrSet != 41 {
		t.Error(name.MaxSet, name.ErrSet)
	}
}

func TestSetOfAllShortLists(t *testing.T) {
	all := append(slices.Collect(strs("a-.", 2)), "a.a", "a-a", "b")
	for _, a := range all {
		for _, b := range all {
			for _, c := range all {
				for _, l := range [][]string{{a}, {a, b}, {a, b, c}} {
					if name.Set(l) != isSet(l) {
						t.Fatalf("Set(%q): %v", l, !isSet(l))
					}
				}
			}
		}
	}
}

func TestOf(t *testing.T) {
	for _, c := range []struct{ l, set []string }{
		{nil, nil}, {[]string{}, nil}, {[]string{"a"}, []string{"a"}}, {[]string{"a", "a"}, []string{"a"}}, {[]string{"b", "a"}, []string{"a", "b"}}, {[]string{"a-b", "a.z", "a"}, []string{"a", "a.z", "a-b"}},
		{[]string{"b", "a.bc", "a", "a-b", "a", "a.b.c", "a.b", "b"}, []string{"a", "a.b", "a.b.c", "a.bc", "a-b", "b"}},
		{sorted, sorted}, {append(slices.Clone(sorted), sorted...), sorted}, {long, []string{long[1], long[2], long[3], long[0]}}, {slices.Repeat([]string{"a"}, 1000), []string{"a"}},
		{pairs(256), pairs(256)}, {slices.Repeat(pairs(256), 3), pairs(256)},
	} {
		if got, e := name.Of(c.l); !slices.Equal(got, c.set) || e != api.OK {
			t.Errorf("Of(%q): %q %d", c.l, got, e)
		}
	}
}

func TestOfInAnyOrder(t *testing.T) {
	r := rand.New(rand.NewSource(4))
	for range 200 {
		var l []string
		for range r.Intn(40) {
			l = append(l, sorted[r.Intn(len(sorted))])
		}
		var want []string
		for _, s := range sorted {
			if slices.Contains(l, s) {
				want = append(want, s)
			}
		}
		if got, e := name.Of(l); !slices.Equal(got, want) || e != api.OK {
			t.Fatalf("Of(%q): %q %d", l, got, e)
		}
	}
}

func TestOfWhatIsNoSet(t *testing.T) {
	for _, s := range wrong {
		for _, l := range [][]string{{s}, {"a", s}, {s, "a"}, {"a", s, "b"}, append(pairs(300), s), append([]string{s}, pairs(300)...)} {
			if got, e := name.Of(l); len(got) != 0 || e != name.ErrName {
				t.Errorf("Of(%q): %q %d", l, got, e)
			}
		}
	}
	for _, size := range []int{257, 258, 600} {
		if got, e := name.Of(pairs(size)); len(got) != 0 || e != api.ErrMany {
			t.Error(size, got, e)
		}
	}
	if got, e := name.Of(append(slices.Repeat(pairs(256), 2), "z.z", "z.z")); len(got) != 0 || e != api.ErrMany {
		t.Error(got, e)
	}
}

// P4.4

// cut returns some names of a list.
func cut(l []string, r *rand.Rand) []string {
	var some []string
	for _, s := range l {
		if r.Intn(2) == 0 {
			some = append(some, s)
		}
	}
	return some
}

// sets are right sets of all sizes.
func sets() [][]string {
	l := [][]string{nil, {}, {"a"}, {"b"}, {"a.b"}, {"a", "a.b", "a.b.c", "a.bc", "a-b", "b"}, sorted, pairs(100), pairs(255), pairs(256)}
	r := rand.New(rand.NewSource(5))
	for range 20 {
		l = append(l, cut(sorted, r), cut(pairs(300), r))
	}
	return l
}

// asked are names that are asked for in sets.
func asked() []string {
	return slices.Concat(sorted, []string{"a.a.a", "a.b", "a.b.c", "a.bc", "a.c", "c", "c.c", "m.m", "y.z", "z.z.z", "zzz"}, long, pairs(300)[250:])
}

func TestFindAddDrop(t *testing.T) {
	for _, l := range sets() {
		for _, s := range asked() {
			at, has := placeOf(l, s)
			if i, is := name.Find(l, s); i != at || is != has {
				t.Fatalf("Find(%q, %q): %d %v", l, s, i, is)
			}
			with, less := l, l
			e, f := api.OK, api.OK
			switch {
			case has:
				less = slices.Concat(l[:at], l[at+1:])
			case len(l) == 256:
				with, less, e, f = nil, nil, api.ErrMany, api.ErrNone
			default:
				with, less, f = slices.Concat(l[:at], []string{s}, l[at:]), nil, api.ErrNone
			}
			if got, code := name.Add(l, s); !slices.Equal(got, with) || code != e {
				t.Fatalf("Add(%q, %q): %q %d", l, s, got, code)
			}
			if got, code := name.Drop(l, s); !slices.Equal(got, less) || code != f {
				t.Fatalf("Drop(%q, %q): %q %d", l, s, got, code)
			}
		}
	}
}

func TestFindAddDropWithWhatIsNotRight(t *testing.T) {
	for _, l := range notSets {
		for _, s := range []string{"a", "b", "", "A", "zz"} { // what is wrong with the set comes first
			if at, has := name.Find(l, s); at != 0 || has {
				t.Errorf("Find(%q, %q): %d %v", l, s, at, has)
			}
			if got, e := name.Add(l, s); len(got) != 0 || e != name.ErrSet {
				t.Errorf("Add(%q, %q): %q %d", l, s, got, e)
			}
			if got, e := name.Drop(l, s); len(got) != 0 || e != name.ErrSet {
				t.Errorf("Drop(%q, %q): %q %d", l, s, got, e)
			}
		}
	}
	for _, l := range [][]string{nil, {"a"}, {"a", "b"}, sorted, pairs(256)} { // a name that is none comes before a set that is full
		for _, s := range wrong {
			if at, has := name.Find(l, s); at != 0 || has {
				t.Errorf("Find(%q, %q): %d %v", l, s, at, has)
			}
			if got, e := name.Add(l, s); len(got) != 0 || e != name.ErrName {
				t.Errorf("Add(%q, %q): %q %d", l, s, got, e)
			}
			if got, e := name.Drop(l, s); len(got) != 0 || e != name.ErrName {
				t.Errorf("Drop(%q, %q): %q %d", l, s, got, e)
			}
		}
	}
}

// P4.5

func TestRange(t *testing.T) {
	l := []string{"a", "a.b", "a.b.c", "a.bc"}
	for _, c := range []struct {
		above    string
		from, to int
	}{{"a", 0, 4}, {"a.b", 1, 3}, {"a.b.c", 2, 3}, {"a.bc", 3, 4}, {"b", 4, 4}, {"a.a", 1, 1}, {"a.b.b", 2, 2}, {"a.b.d", 3, 3}, {"a.bb", 3, 3}, {"a.c", 4, 4}, {"a-b", 4, 4}, {"a0", 4, 4}} {
		if from, to, e := name.Range(l, c.above); from != c.from || to != c.to || e != api.OK {
			t.Errorf("Range of %q: %d %d %d", c.above, from, to, e)
		}
	}
	for _, c := range []struct { // the name itself is not in the set
		above    string
		from, to int
	}{{"a", 0, 3}, {"a.b", 0, 2}, {"a-b", 3, 4}, {"b", 4, 4}} {
		if from, to, e := name.Range([]string{"a.b.c", "a.b.d", "a.c", "a-b.c"}, c.above); from != c.from || to != c.to || e != api.OK {
			t.Errorf("Range of %q: %d %d %d", c.above, from, to, e)
		}
	}
}

func TestRangeOfAll(t *testing.T) {
	for _, l := range sets() {
		for _, above := range asked() {
			from, _ := placeOf(l, above)
			to := from
			for to < len(l) && isUnder(l[to], above) {
				to++
			}
			if i, j, e := name.Range(l, above); i != from || j != to || e != api.OK {
				t.Fatalf("Range(%q, %q): %d %d %d", l, above, i, j, e)
			}
		}
	}
}

func TestRangeOfWhatIsNotRight(t *testing.T) {
	for _, l := range notSets {
		for _, above := range []string{"a", "b", "", "A"} {
			if from, to, e := name.Range(l, above); from != 0 || to != 0 || e != name.ErrSet {
				t.Errorf("Range(%q, %q): %d %d %d", l, above, from, to, e)
			}
		}
	}
	for _, above := range wrong {
		for _, l := range [][]string{nil, {"a"}, sorted} {
			if from, to, e := name.Range(l, above); from != 0 || to != 0 || e != name.ErrName {
				t.Errorf("Range(%q, %q): %d %d %d", l, above, from, to, e)
			}
		}
	}
}

// P4.6

func TestNamesUnderANameLieSideBySide(t *testing.T) {
	for _, l := range append(sets(), must(name.Of(names("ab-.", 4)))) {
		for _, above := range append(asked(), names("ab-.", 3)...) {
			from, to, _ := name.Range(l, above)
			for i, s := range l {
				if name.Under(s, above) != (i >= from && i < to) {
					t.Fatalf("%q in %q, under %q: from %d to %d", s, l, above, from, to)
				}
			}
		}
	}
}

// must returns a result that has no error.
func must[T any](x T, e api.Errno) T {
	if e != api.OK {
		panic(e)
	}
	return x
}

func TestOrderIsOneOfAllNames(t *testing.T) {
	all := names("a0-.", 4)
	for _, a := range all {
		for _, b := range all {
			c := must(name.Compare(a, b))
			if c != -must(name.Compare(b, a)) || (c == 0) != (a == b) {
				t.Fatalf("%q %q: %d", a, b, c)
			}
			if c >= 0 {
				continue
			}
			for _, d := range all {
				if must(name.Compare(b, d)) < 0 && must(name.Compare(a, d)) >= 0 {
					t.Fatalf("%q %q %q", a, b, d)
				}
			}
		}
	}
}

func TestAddedInAnyOrder(t *testing.T) {
	r := rand.New(rand.NewSource(6))
	for range 50 {
		l := slices.Clone(sorted)
		r.Shuffle(len(l), func(i, j int) { l[i], l[j] = l[j], l[i] })
		var set []string
		for _, s := range l {
			next := must(name.Add(set, s))
			if back := must(name.Drop(next, s)); !slices.Equal(back, set) {
				t.Fatalf("%q, with and without %q: %q", set, s, back)
			}
			set = next
		}
		if !slices.Equal(set, sorted) || !slices.Equal(set, must(name.Of(l))) {
			t.Fatalf("%q: %q", l, set)
		}
	}
}

// What holds for all functions

func TestArgumentsAreKept(t *testing.T) {
	for _, l := range append(sets(), notSets...) {
		r := rand.New(rand.NewSource(7))
		room := append(slices.Clone(l), "room", "more") // the spare capacity of what is passed
		r.Shuffle(len(l), func(i, j int) { room[i], room[j] = room[j], room[i] })
		for _, whole := range [][]string{append(slices.Clone(l), "room", "more"), room} {
			kept := slices.Clone(whole)
			given := whole[:len(l)]
			name.Set(given)
			name.Of(given)
			name.Join(given)
			for _, s := range []string{"a", "a.b", "m", "z.z.z", "", "A"} {
				name.Find(given, s)
				name.Add(given, s)
				name.Drop(given, s)
				name.Range(given, s)
			}
			if !slices.Equal(whole, kept) {
				t.Fatalf("%q became %q", kept, whole)
			}
		}
	}
}

func TestResultsShareNothing(t *testing.T) {
	l := []string{"a", "b", "c", "room", "more"}
	kept := slices.Clone(l)
	given := l[:3]
	for i, made := range []func() ([]string, api.Errno){
		func() ([]string, api.Errno) { return name.Of(given) },
		func() ([]string, api.Errno) { return name.Add(given, "b") },
		func() ([]string, api.Errno) { return name.Add(given, "d") },
		func() ([]string, api.Errno) { return name.Add(given, "a.a") },
		func() ([]string, api.Errno) { return name.Drop(given, "a") },
		func() ([]string, api.Errno) { return name.Drop(given, "c") },
		func() ([]string, api.Errno) { return name.Parts("a.b.c") },
	} {
		first, second := must(made()), must(made())
		want := slices.Clone(second)
		first = first[:cap(first)]
		for k := range first {
			first[k] = "changed"
		}
		if !slices.Equal(l, kept) || !slices.Equal(second, want) || !slices.Equal(must(made()), want) {
			t.Error(i, l, second)
		}
	}
}

func TestManyNames(t *testing.T) {
	if got, e := name.Of(slices.Repeat(pairs(256), 2000)); !slices.Equal(got, pairs(256)) || e != api.OK {
		t.Error(len(got), e)
	}
	if s, e := name.Join(make([]string, 1<<20)); s != "" || e != name.ErrName {
		t.Error(len(s), e)
	}
	if name.Right(strings.Repeat("a", 1<<24)) || name.Set(make([]string, 1<<20)) {
		t.Error("too long")
	}
}
