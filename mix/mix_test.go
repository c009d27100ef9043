package mix_test

import (
	"math/big"
	"math/rand"
	"regexp"
	"slices"
	"strconv"
	"strings"
	"testing"

	"fermata/api"
	"fermata/mix"
)

// minus is what gives 0 with Golden.
var minus = ^mix.Golden + 1

// numbers returns those around every power of 2 and the constants, small ones, and some with bits of all kinds.
func numbers() []uint64 {
	var l []uint64
	for x := range uint64(100) {
		l = append(l, x, -x)
	}
	for k := range 64 {
		p := uint64(1) << k
		l = append(l, p-1, p, p+1, -p, ^p, mix.Golden*p)
	}
	for _, x := range []uint64{mix.Golden, mix.First, mix.Second, 0x5555555555555555, 0x0123456789abcdef} {
		l = append(l, x-1, x, x+1, -x, ^x)
	}
	r := rand.New(rand.NewSource(1))
	for range 500 {
		l = append(l, r.Uint64())
	}
	slices.Sort(l)
	return slices.Compact(l)
}

// folded is by the document what a number is folded to, bit by bit.
func folded(x uint64, n int) uint64 {
	var y uint64
	for i := range 64 {
		bit := x >> i & 1
		if i+n < 64 {
			bit = (bit + x>>(i+n)&1) % 2
		}
		y |= bit << i
	}
	return y
}

// unfolded is the number that is folded to another one: its bits are found from the highest one on.
func unfolded(x uint64, n int) uint64 {
	var y uint64
	for i := 63; i >= 0; i-- {
		bit := x >> i & 1
		if i+n < 64 {
			bit = (bit + y>>(i+n)&1) % 2
		}
		y |= bit << i
	}
	return y
}

// product is that of two numbers modulo 2^64.
func product(x, y uint64) uint64 {
	whole := new(big.Int).Mul(new(big.Int).SetUint64(x), new(big.Int).SetUint64(y))
	return whole.Mod(whole, new(big.Int).Lsh(big.NewInt(1), 64)).Uint64()
}

// mixed is by the document what a number is mixed to.
func mixed(x uint64) uint64 {
	x = product(folded(x, 30), 0xbf58476d1ce4e5b9)
	x = product(folded(x, 27), 0x94d049bb133111eb)
	return folded(x, 31)
}

// joined is by the document what numbers are joined to.
func joined(l []uint64) uint64 {
	if len(l) == 0 {
		return 0
	}
	rest, last := l[:len(l)-1], l[len(l)-1]
	return mixed(0x9e3779b97f4a7c15 + last + product(joined(rest), 0x9e3779b97f4a7c15))
}

// lists are numbers to join, of all lengths.
func lists() [][]uint64 {
	l := [][]uint64{nil, {}, {0}, {1}, {mix.Golden}, {minus}, {0, 0}, {0, 1}, {1, 0}, {3, 4}, {4, 3}, {0, 0, 0}, {1, 2, 3}, {3, 2, 1}, {1<<64 - 1, 1<<64 - 1}, numbers()}
	r := rand.New(rand.NewSource(2))
	for size := range 40 {
		some := make([]uint64, size)
		for i := range some {
			some[i] = r.Uint64() >> r.Intn(64)
		}
		l = append(l, some)
	}
	return l
}

// P5.1

// streams are the first numbers of streams, as they are known for this way to mix.
var streams = []struct {
	seed    uint64
	numbers []uint64
}{
	{0, []uint64{0xe220a8397b1dcdaf, 0x6e789e6aa1b965f4, 0x06c45d188009454f, 0xf88bb8a8724c81ec, 0x1b39896a51a8749b}},
	{1234567, []uint64{6457827717110365317, 3203168211198807973, 9817491932198370423, 4593380528125082431, 16408922859458223821}},
}

func TestMixHasTheNumbersOfStreams(t *testing.T) {
	for _, s := range streams {
		x := s.seed
		for i, want := range s.numbers {
			x += 0x9e3779b97f4a7c15
			if got := mix.Mix(x); got != want {
				t.Errorf("Mix(%x), number %d of %d: %x", x, i, s.seed, got)
			}
			if got := mix.Unmix(want); got != x {
				t.Errorf("Unmix(%x), number %d of %d: %x", want, i, s.seed, got)
			}
		}
	}
}

func TestMixAndUnmix(t *testing.T) {
	for _, x := range numbers() {
		y := mixed(x)
		if got := mix.Mix(x); got != y {
			t.Errorf("Mix(%x): %x", x, got)
		}
		if got := mix.Unmix(y); got != x {
			t.Errorf("Unmix(%x): %x", y, got)
		}
		if back := mix.Unmix(x); mixed(back) != x {
			t.Errorf("Unmix(%x): %x", x, back)
		}
	}
}

func TestConstants(t *testing.T) {
	if mix.Golden != 0x9e3779b97f4a7c15 || mix.First != 0xbf58476d1ce4e5b9 || mix.Second != 0x94d049bb133111eb || mix.ErrText != 50 {
		t.Error(mix.Golden, mix.First, mix.Second, mix.ErrText)
	}
}

func TestFoldsByHand(t *testing.T) {
	for _, c := range []struct {
		x      uint64
		n      int
		folded uint64
	}{
		{0, 1, 0}, {1, 1, 1}, {2, 1, 3}, {5, 1, 7}, {7, 1, 4}, {5, 2, 4}, {5, 3, 5}, {1<<64 - 1, 1, 1 << 63},
		{1 << 63, 1, 1<<63 | 1<<62}, {1 << 63, 62, 1<<63 | 2}, {1 << 63, 63, 1<<63 | 1}, {1<<63 | 1, 63, 1 << 63}, {1 << 62, 63, 1 << 62}, {1<<64 - 1, 32, 0xffffffff00000000}, {0x123456789abcdef0, 32, 0x1234567888888888},
	} {
		if got, e := mix.Fold(c.x, c.n); got != c.folded || e != api.OK {
			t.Errorf("Fold(%x, %d): %x %d", c.x, c.n, got, e)
		}
		if got, e := mix.Unfold(c.folded, c.n); got != c.x || e != api.OK {
			t.Errorf("Unfold(%x, %d): %x %d", c.folded, c.n, got, e)
		}
	}
}

func TestFoldAndUnfold(t *testing.T) {
	for _, x := range numbers() {
		for n := 1; n <= 63; n++ {
			if got, e := mix.Fold(x, n); got != folded(x, n) || e != api.OK {
				t.Fatalf("Fold(%x, %d): %x %d", x, n, got, e)
			}
			if got, e := mix.Unfold(x, n); got != unfolded(x, n) || e != api.OK {
				t.Fatalf("Unfold(%x, %d): %x %d", x, n, got, e)
			}
		}
	}
}

func TestFoldAndUnfoldByWhatIsNotRight(t *testing.T) {
	for _, n := range []int{0, 64, -1, 65, 128, -63, -64, 1 << 32, 1<<32 + 1, 1<<63 - 1, -1 << 63} {
		for _, x := range []uint64{0, 1, 5, 1 << 63, 1<<64 - 1} {
			if got, e := mix.Fold(x, n); got != 0 || e != api.ErrArg {
				t.Errorf("Fold(%x, %d): %x %d", x, n, got, e)
			}
			if got, e := mix.Unfold(x, n); got != 0 || e != api.ErrArg {
				t.Errorf("Unfold(%x, %d): %x %d", x, n, got, e)
			}
		}
	}
}

// P5.2

func TestJoinByHand(t *testing.T) {
	for _, c := range []struct {
		l      []uint64
		joined uint64
	}{
		{nil, 0}, {[]uint64{}, 0}, {[]uint64{0}, 0xe220a8397b1dcdaf}, {[]uint64{mix.Golden}, 0x6e789e6aa1b965f4},
		{[]uint64{minus}, 0}, {[]uint64{minus, 0}, 0xe220a8397b1dcdaf}, // as nothing is joined to 0, too
		{[]uint64{0, 0}, mixed(0x9e3779b97f4a7c15 + product(0xe220a8397b1dcdaf, 0x9e3779b97f4a7c15))},
		{[]uint64{0, 5}, mixed(0x9e3779b97f4a7c15 + 5 + product(0xe220a8397b1dcdaf, 0x9e3779b97f4a7c15))},
	} {
		if got := mix.Join(c.l...); got != c.joined {
			t.Errorf("Join(%x): %x", c.l, got)
		}
	}
	if mix.Join() != 0 {
		t.Error("Join of none")
	}
}

func TestJoin(t *testing.T) {
	for _, l := range lists() {
		if got := mix.Join(l...); got != joined(l) {
			t.Errorf("Join(%x): %x", l, got)
		}
	}
}

func TestLast(t *testing.T) {
	for _, l := range lists() {
		for _, x := range []uint64{0, 1, 4, mix.Golden, minus, 1 << 63, 1<<64 - 1, 0x0123456789abcdef} {
			all := append(slices.Clone(l), x)
			if got := mix.Last(joined(all), l...); got != x {
				t.Errorf("Last(%x, %x): %x", joined(all), l, got)
			}
			last := mix.Last(x, l...)
			if back := joined(append(slices.Clone(l), last)); back != x {
				t.Errorf("Last(%x, %x): %x, joined to %x", x, l, last, back)
			}
		}
	}
	if got := mix.Last(mix.Join(3, 4), 3); got != 4 {
		t.Error(got)
	}
	if got := mix.Last(0); got != minus {
		t.Errorf("Last(0): %x", got)
	}
}

// P5.3

// text is what the document says the text of a number is.
var text = regexp.MustCompile(`\A[0-9a-f][0-9a-v]{12}\z`)

// textOf is by the document the text of a number.
func textOf(x uint64) string {
	s := strconv.FormatUint(x, 32)
	return strings.Repeat("0", 13-len(s)) + s
}

// wrong are strings that are no texts.
var wrong = []string{
	"", "0", "000000000000", "00000000000000", "7v", "fvvvvvvvvvvv", "ffvvvvvvvvvvvv", "0fvvvvvvvvvvvv", "fvvvvvvvvvvvv0",
	"g000000000000", "gvvvvvvvvvvvv", "h000000000000", "v000000000000", "vvvvvvvvvvvvv", "000000000000w", "000000w000000", "w000000000000", "z000000000000", "000000000000z",
	"A000000000000", "F000000000000", "000000000000A", "000000000000V", "00000000000 0", " 000000000000", "000000000000 ", "-000000000001", "+000000000001", "0x00000000001", "0_00000000001", "000000000000\x00", "\x00000000000000",
	"000000000000\xff", "000000000000/", "000000000000:", "000000000000`", "00000000000é", "é00000000000", "0000000000é0", "00000000000é00", "ａ0000000000", "000000000000é", "\n000000000000", "000000000000\n", "0000000000000\n",
}

func TestTextsByHand(t *testing.T) {
	for _, c := range []struct {
		x uint64
		s string
	}{
		{0, "0000000000000"}, {1, "0000000000001"}, {9, "0000000000009"}, {10, "000000000000a"}, {31, "000000000000v"}, {32, "0000000000010"}, {255, "000000000007v"}, {256, "0000000000080"}, {1023, "00000000000vv"}, {1024, "0000000000100"},
		{1<<60 - 1, "0vvvvvvvvvvvv"}, {1 << 60, "1000000000000"}, {10 << 60, "a000000000000"}, {1 << 63, "8000000000000"}, {1<<63 - 1, "7vvvvvvvvvvvv"}, {15 << 60, "f000000000000"}, {1<<64 - 2, "fvvvvvvvvvvvu"}, {1<<64 - 1, "fvvvvvvvvvvvv"},
		{0x8864298e84a96c, "0123456789abc"}, {0xf7358b5250731483, "fedcba9876543"},
	} {
		if got := mix.Text(c.x); got != c.s {
			t.Errorf("Text(%x): %q", c.x, got)
		}
		if got, e := mix.Read(c.s); got != c.x || e != api.OK {
			t.Errorf("Read(%q): %x %d", c.s, got, e)
		}
	}
}

func TestEachDigitInEachPlace(t *testing.T) {
	for digit, c := range "0123456789abcdefghijklmnopqrstuv" {
		for place := range 13 {
			s := []byte("0000000000000")
			s[place] = byte(c)
			x, e := mix.Read(string(s))
			if place == 0 && digit > 15 {
				if x != 0 || e != mix.ErrText {
					t.Errorf("Read(%q): %x %d", s, x, e)
				}
				continue
			}
			want := uint64(digit) << (5 * (12 - place))
			if x != want || e != api.OK || mix.Text(want) != string(s) {
				t.Errorf("%q: %x %d %q", s, x, e, mix.Text(want))
			}
		}
	}
}

func TestEachByteInEachPlace(t *testing.T) {
	for c := range 256 {
		for place := range 13 {
			for _, whole := range []string{"0000000000000", "fvvvvvvvvvvvv", "1a2b3c4d5e6f7"} {
				b := []byte(whole)
				b[place] = byte(c)
				s := string(b)
				x, e := mix.Read(s)
				if text.MatchString(s) {
					want, _ := strconv.ParseUint(s, 32, 64)
					if x != want || e != api.OK {
						t.Fatalf("Read(%q): %x %d", s, x, e)
					}
				} else if x != 0 || e != mix.ErrText {
					t.Fatalf("Read(%q): %x %d", s, x, e)
				}
			}
		}
	}
}

func TestReadOfStringsThatAreNoTexts(t *testing.T) {
	for _, s := range wrong {
		if x, e := mix.Read(s); x != 0 || e != mix.ErrText {
			t.Errorf("Read(%q): %x %d", s, x, e)
		}
	}
	for size := range 40 {
		for _, digit := range []string{"0", "1", "f", "v"} {
			s := strings.Repeat(digit, size)
			x, e := mix.Read(s)
			if is := size == 13 && digit != "v"; is != (e == api.OK) || !is && (x != 0 || e != mix.ErrText) {
				t.Errorf("Read(%q): %x %d", s, x, e)
			}
		}
	}
	if x, e := mix.Read(strings.Repeat("0", 1<<24)); x != 0 || e != mix.ErrText {
		t.Error(x, e)
	}
}

func TestTexts(t *testing.T) {
	for _, x := range numbers() {
		if got := mix.Text(x); got != textOf(x) {
			t.Errorf("Text(%x): %q", x, got)
		}
		if got, e := mix.Read(textOf(x)); got != x || e != api.OK {
			t.Errorf("Read(%q): %x %d", textOf(x), got, e)
		}
	}
}

// P5.4

func TestDifferentNumbersAreMixedToDifferentOnes(t *testing.T) {
	if mix.Mix(0) != 0 || mix.Unmix(0) != 0 {
		t.Errorf("%x %x", mix.Mix(0), mix.Unmix(0))
	}
	l := numbers()
	for x := range uint64(1 << 17) {
		l = append(l, x)
	}
	of := map[uint64]uint64{}
	for _, x := range l {
		y := mix.Mix(x)
		if other, met := of[y]; met && other != x || (y == 0) != (x == 0) {
			t.Fatalf("%x and %x are mixed to %x", x, other, y)
		}
		of[y] = x
		if mix.Unmix(y) != x || mix.Mix(mix.Unmix(x)) != x {
			t.Fatalf("%x is mixed to %x, and that is of %x", x, y, mix.Unmix(y))
		}
	}
}

func TestFoldsAreTakenBack(t *testing.T) {
	for _, x := range numbers() {
		for n := 1; n <= 63; n++ {
			y, e := mix.Fold(x, n)
			back, f := mix.Unfold(y, n)
			if back != x || e != api.OK || f != api.OK {
				t.Fatalf("%x by %d: %x %d, %x %d", x, n, y, e, back, f)
			}
		}
	}
}

func TestListsThatDifferInOneNumberAreJoinedToDifferentOnes(t *testing.T) {
	for _, l := range lists() {
		if len(l) > 40 {
			continue
		}
		whole := mix.Join(l...)
		for i := range l {
			met := map[uint64]uint64{whole: l[i]}
			for k := range 64 {
				other := slices.Clone(l)
				other[i] ^= 1 << k
				y := mix.Join(other...)
				if x, has := met[y]; has {
					t.Fatalf("%x, with %x and %x at %d: %x", l, x, other[i], i, y)
				}
				met[y] = other[i]
			}
		}
	}
}

func TestWhatIsWrittenIsReadBack(t *testing.T) {
	for _, x := range numbers() {
		s := mix.Text(x)
		if got, e := mix.Read(s); got != x || e != api.OK || len(s) != 13 {
			t.Errorf("%x: %q, %x %d", x, s, got, e)
		}
	}
	for _, s := range []string{"0000000000000", "0123456789abc", "defghijklmnop", "fqrstuv000000", "8080808080808"} {
		x, e := mix.Read(s)
		if got := mix.Text(x); got != s || e != api.OK {
			t.Errorf("%q: %x %d, %q", s, x, e, got)
		}
	}
}

func TestTextsAreInTheOrderOfTheirNumbers(t *testing.T) {
	l := numbers()
	for i := 1; i < len(l); i++ {
		if mix.Text(l[i-1]) >= mix.Text(l[i]) {
			t.Errorf("%x %x: %q %q", l[i-1], l[i], mix.Text(l[i-1]), mix.Text(l[i]))
		}
	}
}

// What holds for all functions

func TestArgumentsAreKept(t *testing.T) {
	for _, l := range lists() {
		whole := append(slices.Clone(l), 7, 8, 9) // the spare capacity of what is passed
		kept := slices.Clone(whole)
		given := whole[:len(l)]
		mix.Join(given...)
		mix.Last(5, given...)
		if !slices.Equal(whole, kept) {
			t.Fatalf("%x became %x", kept, whole)
		}
	}
}

func TestResultsDependOnArgumentsOnly(t *testing.T) {
	l := numbers()
	first := func(x uint64) []any {
		y, e := mix.Fold(x, 9)
		z, f := mix.Unfold(x, 9)
		return []any{mix.Mix(x), mix.Unmix(x), y, e, z, f, mix.Join(x, 1), mix.Last(x, 1), mix.Text(x)}
	}
	var met [][]any
	for _, x := range l {
		met = append(met, first(x))
	}
	for i := len(l) - 1; i >= 0; i-- {
		if got := first(l[i]); !slices.Equal(got, met[i]) {
			t.Errorf("%x: %v, then %v", l[i], met[i], got)
		}
	}
}
