package rng_test

import (
	"math/big"
	"math/rand"
	"slices"
	"testing"

	"fermata/api"
	"fermata/mix"
	"fermata/rng"
)

const (
	most  = 1<<63 - 1  // the greatest bound
	least = -most - 1  // the least number with a sign
	last  = 1<<48 + 1  // the place behind the last index
	all   = 1<<64 - 1  // the greatest number
	huge  = 1 << 32    // what makes a wrong argument look right if it is cut to 32 bits
	many  = 1<<16 + 50 // how many numbers are drawn where many are
)

// processes are some that there are, indexes and seeds too.
var (
	processes = []int{0, 1, 2, 255, 256, 65535, 65536}
	indexes   = []int{0, 1, 2, 3, 1000, 1<<16 - 1, 1 << 16, 1<<31 - 1, 1 << 31, 1<<32 - 1, 1 << 32, 1<<47 + 12345, 1<<48 - 1, 1 << 48}
	seeds     = []uint64{0, 1, 5, 1234567, mix.Golden, 1 << 63, all}
)

// Those that there are not.
var (
	noProcesses = []int{-1, -2, 65537, 65538, 1 << 17, huge, -huge, huge + 1, 1 << 48, most, least}
	noIndexes   = []int{-1, -2, -huge, 1<<48 + 1, 1<<48 + 2, 1 << 49, 1 << 62, most, least}
	noBounds    = []int64{0, -1, -2, -5, -huge, 1 - huge, -most, least}
)

// whole is a number without a sign that has no greatest one.
func whole(x uint64) *big.Int { return new(big.Int).SetUint64(x) }

// word is 2^64.
var word = new(big.Int).Lsh(big.NewInt(1), 64)

// valueOf is by the document the number with an index of the stream with a key.
func valueOf(key uint64, index int) uint64 {
	sum := new(big.Int).Mul(whole(uint64(index)+1), whole(0x9e3779b97f4a7c15))
	sum.Add(sum, whole(key))
	return mix.Mix(sum.Mod(sum, word).Uint64())
}

// belowOf is by the document the number below a bound of a number.
func belowOf(v uint64, n int64) int64 {
	product := new(big.Int).Mul(whole(v), big.NewInt(n))
	return product.Div(product, word).Int64()
}

// firstOf is the first number whose number below n is k or more, whole: 2^64 if there is none.
func firstOf(n, k int64) *big.Int {
	product := new(big.Int).Mul(big.NewInt(k), word)
	product.Add(product, big.NewInt(n-1))
	return product.Div(product, big.NewInt(n))
}

// seedOf returns the seed by which a process has a key.
func seedOf(key uint64, process int) uint64 {
	inverse := new(big.Int).ModInverse(whole(mix.Golden), word).Uint64()
	joined := (mix.Unmix(key) - mix.Golden - uint64(process)) * inverse
	return mix.Last(joined)
}

// bounds returns those around every power of 2, small ones, and some of all kinds.
func bounds() []int64 {
	var l []int64
	for n := range int64(70) {
		l = append(l, n+1, most-n)
	}
	for k := 2; k < 63; k++ {
		p := int64(1) << k
		l = append(l, p-1, p, p+1)
	}
	r := rand.New(rand.NewSource(1))
	for range 100 {
		l = append(l, 1+r.Int63()>>r.Intn(63))
	}
	slices.Sort(l)
	return slices.Compact(l)
}

// numbers returns those around every power of 2, small and great ones, and some of all kinds.
func numbers() []uint64 {
	var l []uint64
	for x := range uint64(20) {
		l = append(l, x, all-x)
	}
	for k := range 64 {
		p := uint64(1) << k
		l = append(l, p-1, p, p+1, -p, ^p)
	}
	r := rand.New(rand.NewSource(2))
	for range 100 {
		l = append(l, r.Uint64())
	}
	slices.Sort(l)
	return slices.Compact(l)
}

// within returns numbers that are from 0 to less than a bound, the least and the greatest ones among them.
func within(n int64) []int64 {
	var l []int64
	for _, k := range []int64{0, 1, 2, n / 3, n/2 - 1, n / 2, n/2 + 1, n - 3, n - 2, n - 1} {
		if k >= 0 && k < n {
			l = append(l, k)
		}
	}
	r := rand.New(rand.NewSource(n))
	for range 10 {
		l = append(l, r.Int63n(n))
	}
	return l
}

// made returns a new stream.
func made(t *testing.T, seed uint64, process int) *rng.Stream {
	t.Helper()
	s, e := rng.New(seed, process)
	if s == nil || e != api.OK {
		t.Fatalf("New(%x, %d): %v %d", seed, process, s, e)
	}
	return s
}

// moved returns a stream at a place.
func moved(t *testing.T, seed uint64, process, index int) *rng.Stream {
	t.Helper()
	s := made(t, seed, process)
	if e := s.Move(index); e != api.OK || s.Index() != index {
		t.Fatalf("Move(%d): %d, then at %d", index, e, s.Index())
	}
	return s
}

// P6.1

// streams are the first numbers of streams with some keys, as they are known for this way to mix.
var streams = []struct {
	key     uint64
	numbers []uint64
}{
	{0, []uint64{0xe220a8397b1dcdaf, 0x6e789e6aa1b965f4, 0x06c45d188009454f, 0xf88bb8a8724c81ec, 0x1b39896a51a8749b}},
	{1234567, []uint64{6457827717110365317, 3203168211198807973, 9817491932198370423, 4593380528125082431, 16408922859458223821}},
}

func TestConstants(t *testing.T) {
	if rng.MaxProcess != 65536 || rng.MaxIndex != 281474976710656 || rng.ErrBound != 60 {
		t.Error(rng.MaxProcess, rng.MaxIndex, rng.ErrBound)
	}
}

func TestStreamsThatAreKnown(t *testing.T) {
	for _, c := range streams {
		for _, process := range processes {
			seed := seedOf(c.key, process)
			if key, e := rng.Key(seed, process); key != c.key || e != api.OK {
				t.Errorf("Key(%x, %d): %x %d", seed, process, key, e)
			}
			for i, want := range c.numbers {
				if got, e := rng.Value(seed, process, i); got != want || e != api.OK {
					t.Errorf("Value(%x, %d, %d): %x %d", seed, process, i, got, e)
				}
				if at, e := rng.Find(seed, process, want); at != i || e != api.OK {
					t.Errorf("Find(%x, %d, %x): %d %d", seed, process, want, at, e)
				}
			}
		}
	}
}

func TestKey(t *testing.T) {
	for _, seed := range append(numbers(), seeds...) {
		for _, process := range processes {
			if key, e := rng.Key(seed, process); key != mix.Join(seed, uint64(process)) || e != api.OK {
				t.Errorf("Key(%x, %d): %x %d", seed, process, key, e)
			}
		}
	}
}

func TestValue(t *testing.T) {
	for _, seed := range append(numbers(), seeds...) {
		for _, process := range processes {
			key := mix.Join(seed, uint64(process))
			for _, index := range indexes {
				if got, e := rng.Value(seed, process, index); got != valueOf(key, index) || e != api.OK {
					t.Fatalf("Value(%x, %d, %d): %x %d", seed, process, index, got, e)
				}
			}
		}
	}
}

func TestNoSuchProcess(t *testing.T) {
	for _, process := range noProcesses {
		for _, seed := range seeds {
			if key, e := rng.Key(seed, process); key != 0 || e != api.ErrArg {
				t.Errorf("Key(%x, %d): %x %d", seed, process, key, e)
			}
			if s, e := rng.New(seed, process); s != nil || e != api.ErrArg {
				t.Errorf("New(%x, %d): %v %d", seed, process, s, e)
			}
			for _, index := range append(indexes, noIndexes...) {
				if v, e := rng.Value(seed, process, index); v != 0 || e != api.ErrArg {
					t.Errorf("Value(%x, %d, %d): %x %d", seed, process, index, v, e)
				}
				if d, e := rng.Draw(seed, process, index, 6); d != 0 || e != api.ErrArg {
					t.Errorf("Draw(%x, %d, %d, 6): %d %d", seed, process, index, d, e)
				}
			}
			for _, v := range []uint64{0, 1, all, valueOf(mix.Join(seed, uint64(process)), 7)} {
				if at, e := rng.Find(seed, process, v); at != 0 || e != api.ErrArg {
					t.Errorf("Find(%x, %d, %x): %d %d", seed, process, v, at, e)
				}
			}
		}
	}
}

func TestNoSuchIndex(t *testing.T) {
	for _, index := range noIndexes {
		for _, seed := range seeds {
			for _, process := range processes {
				if v, e := rng.Value(seed, process, index); v != 0 || e != api.ErrArg {
					t.Errorf("Value(%x, %d, %d): %x %d", seed, process, index, v, e)
				}
				if d, e := rng.Draw(seed, process, index, 6); d != 0 || e != api.ErrArg {
					t.Errorf("Draw(%x, %d, %d, 6): %d %d", seed, process, index, d, e)
				}
			}
		}
	}
}

// P6.2

func TestBelowByHand(t *testing.T) {
	for _, c := range []struct {
		v    uint64
		n    int64
		want int64
	}{
		{0, 1, 0}, {all, 1, 0}, {0, most, 0}, {1, most, 0}, {2, most, 0}, {3, most, 1}, {all, most, most - 1}, {all, 2, 1}, {1 << 63, 2, 1}, {1<<63 - 1, 2, 0}, {1 << 63, 10, 5}, {1<<63 - 1, 10, 4}, {all, 10, 9},
		{6148914691236517205, 3, 0}, {6148914691236517206, 3, 1}, {12297829382473034410, 3, 1}, {12297829382473034411, 3, 2}, {1<<32 - 1, huge, 0}, {1 << 32, huge, 1}, {all, huge, huge - 1}, {5 << 32, huge, 5}, {1 << 62, 1 << 62, 1 << 60}, {3, 1 << 62, 0}, {4, 1 << 62, 1}, {0x0123456789abcdef, 256, 1}, {0x0123456789abcdef, 65536, 0x123},
	} {
		if got, e := rng.Below(c.v, c.n); got != c.want || e != api.OK {
			t.Errorf("Below(%x, %d): %d %d", c.v, c.n, got, e)
		}
	}
}

func TestBelow(t *testing.T) {
	l := numbers()
	for _, n := range bounds() {
		for _, v := range l {
			if got, e := rng.Below(v, n); got != belowOf(v, n) || e != api.OK {
				t.Fatalf("Below(%x, %d): %d %d", v, n, got, e)
			}
		}
	}
}

func TestBelowNoBound(t *testing.T) {
	for _, n := range noBounds {
		for _, v := range numbers() {
			if got, e := rng.Below(v, n); got != 0 || e != rng.ErrBound {
				t.Errorf("Below(%x, %d): %d %d", v, n, got, e)
			}
		}
	}
}

func TestDraw(t *testing.T) {
	for _, seed := range seeds {
		for _, process := range processes {
			key := mix.Join(seed, uint64(process))
			for _, index := range indexes {
				for _, n := range []int64{1, 2, 3, 6, 10, huge, huge + 1, 1 << 62, most - 1, most} {
					if got, e := rng.Draw(seed, process, index, n); got != belowOf(valueOf(key, index), n) || e != api.OK {
						t.Fatalf("Draw(%x, %d, %d, %d): %d %d", seed, process, index, n, got, e)
					}
				}
			}
		}
	}
}

func TestDrawBelowNoBound(t *testing.T) {
	for _, n := range noBounds {
		for _, process := range processes {
			for _, index := range indexes {
				if got, e := rng.Draw(5, process, index, n); got != 0 || e != rng.ErrBound {
					t.Errorf("Draw(5, %d, %d, %d): %d %d", process, index, n, got, e)
				}
			}
		}
		for _, process := range noProcesses {
			if got, e := rng.Draw(5, process, 0, n); got != 0 || e != api.ErrArg {
				t.Errorf("Draw(5, %d, 0, %d): %d %d", process, n, got, e)
			}
		}
		for _, index := range noIndexes {
			if got, e := rng.Draw(5, 0, index, n); got != 0 || e != api.ErrArg {
				t.Errorf("Draw(5, 0, %d, %d): %d %d", index, n, got, e)
			}
		}
	}
}

// P6.3

func TestRangeByHand(t *testing.T) {
	for _, c := range []struct {
		n, k        int64
		first, last uint64
	}{
		{1, 0, 0, all}, {2, 0, 0, 1<<63 - 1}, {2, 1, 1 << 63, all}, {3, 0, 0, 6148914691236517205}, {3, 1, 6148914691236517206, 12297829382473034410}, {3, 2, 12297829382473034411, all},
		{4, 3, 3 << 62, all}, {5, 0, 0, 3689348814741910323}, {5, 4, 14757395258967641293, all}, {10, 5, 1 << 63, 11068046444225730969}, {huge, 7, 7 << 32, 8<<32 - 1}, {1 << 62, 5, 20, 23}, {1 << 62, 1<<62 - 1, all - 3, all},
		{most, 0, 0, 2}, {most, 1, 3, 4}, {most, 2, 5, 6}, {most, most - 1, all - 1, all}, {most - 1, 0, 0, 2}, {most - 1, most - 2, all - 1, all},
	} {
		if first, last, e := rng.Range(c.n, c.k); first != c.first || last != c.last || e != api.OK {
			t.Errorf("Range(%d, %d): %d %d %d", c.n, c.k, first, last, e)
		}
	}
}

func TestRange(t *testing.T) {
	for _, n := range bounds() {
		for _, k := range within(n) {
			first, last, e := rng.Range(n, k)
			end := firstOf(n, k+1)
			if firstOf(n, k).Cmp(whole(first)) != 0 || end.Sub(end, big.NewInt(1)).Cmp(whole(last)) != 0 || e != api.OK {
				t.Fatalf("Range(%d, %d): %d %d %d", n, k, first, last, e)
			}
		}
	}
}

func TestRangeHasTheLeastAndTheGreatest(t *testing.T) {
	for _, n := range bounds() {
		for _, k := range within(n) {
			first, last, _ := rng.Range(n, k)
			if first > last || belowOf(first, n) != k || belowOf(last, n) != k {
				t.Fatalf("Range(%d, %d): %d %d", n, k, first, last)
			}
			if first > 0 && belowOf(first-1, n) == k || last < all && belowOf(last+1, n) == k || (first == 0) != (k == 0) || (last == all) != (k == n-1) {
				t.Fatalf("Range(%d, %d) is not all: %d %d", n, k, first, last)
			}
		}
	}
}

func TestRangeOfWhatIsNotRight(t *testing.T) {
	for _, n := range noBounds {
		for _, k := range []int64{0, 1, -1, n, n - 1, n + 1, most, least} {
			if first, last, e := rng.Range(n, k); first != 0 || last != 0 || e != rng.ErrBound {
				t.Errorf("Range(%d, %d): %d %d %d", n, k, first, last, e)
			}
		}
	}
	for _, n := range bounds() {
		for _, k := range []int64{n, -1, -2, -n, most, least} {
			if first, last, e := rng.Range(n, k); first != 0 || last != 0 || e != api.ErrArg {
				t.Errorf("Range(%d, %d): %d %d %d", n, k, first, last, e)
			}
		}
	}
}

// P6.4

func TestFind(t *testing.T) {
	for _, seed := range append(numbers(), seeds...) {
		for _, process := range processes {
			key := mix.Join(seed, uint64(process))
			for _, index := range indexes {
				v := valueOf(key, index)
				if at, e := rng.Find(seed, process, v); at != index || e != api.OK {
					t.Fatalf("Find(%x, %d, %x): %d %d", seed, process, v, at, e)
				}
			}
		}
	}
}

func TestFindOfNumbersBeyondTheIndexes(t *testing.T) {
	for _, seed := range seeds {
		for _, process := range processes {
			key := mix.Join(seed, uint64(process))
			for _, index := range []int{-1, -2, -3, -1000, -huge, -1 << 48, -1<<48 - 1, 1<<48 + 1, 1<<48 + 2, 1 << 49, 1<<62 - 1, 1 << 62, most, least, least + 1} {
				v := mix.Mix(key + (uint64(index)+1)*mix.Golden)
				if at, e := rng.Find(seed, process, v); at != 0 || e != api.ErrNone {
					t.Errorf("Find(%x, %d, %x), which is at %d: %d %d", seed, process, v, index, at, e)
				}
			}
		}
	}
}

func TestFindOfNumbersOfOthers(t *testing.T) {
	for index := range 1000 {
		v, _ := rng.Value(5, 1, index)
		for _, other := range []struct {
			seed    uint64
			process int
		}{{5, 0}, {5, 2}, {4, 1}, {6, 1}, {1, 5}} {
			// That one of 1000 is among 2^48 of 2^64 numbers is not likely, and it is none of these.
			if at, e := rng.Find(other.seed, other.process, v); at != 0 || e != api.ErrNone {
				t.Errorf("Find(%d, %d, %x): %d %d", other.seed, other.process, v, at, e)
			}
		}
	}
}

// P6.5

func TestNew(t *testing.T) {
	for _, seed := range seeds {
		for _, process := range processes {
			s := made(t, seed, process)
			if s.Index() != 0 {
				t.Errorf("New(%x, %d) is at %d", seed, process, s.Index())
			}
			v, e := s.Next()
			if want := valueOf(mix.Join(seed, uint64(process)), 0); v != want || e != api.OK || s.Index() != 1 {
				t.Errorf("New(%x, %d): %x %d, then at %d", seed, process, v, e, s.Index())
			}
		}
	}
}

func TestStreamsWithTheKeyZero(t *testing.T) {
	for _, process := range processes {
		s := made(t, seedOf(0, process), process)
		for i, want := range streams[0].numbers {
			if v, e := s.Next(); v != want || e != api.OK || s.Index() != i+1 {
				t.Errorf("%d of %d: %x %d, then at %d", i, process, v, e, s.Index())
			}
		}
		if e := s.Move(0); e != api.OK || s.Index() != 0 {
			t.Errorf("Move(0): %d, then at %d", e, s.Index())
		}
	}
}

func TestNextAndDrawGoOn(t *testing.T) {
	s := made(t, 9, 4)
	key := mix.Join(9, 4)
	for i := range 3000 {
		if at := s.Index(); at != i {
			t.Fatalf("at %d, not %d", at, i)
		}
		want := valueOf(key, i)
		if n := int64(i%7)*int64(i) + 1; i%3 == 0 {
			if d, e := s.Draw(n); d != belowOf(want, n) || e != api.OK {
				t.Fatalf("Draw(%d) at %d: %d %d", n, i, d, e)
			}
		} else if v, e := s.Next(); v != want || e != api.OK {
			t.Fatalf("Next at %d: %x %d", i, v, e)
		}
	}
}

func TestNextAndDrawAtEachPlace(t *testing.T) {
	key := mix.Join(9, 4)
	for _, index := range indexes {
		s := moved(t, 9, 4, index)
		if v, e := s.Next(); v != valueOf(key, index) || e != api.OK || s.Index() != index+1 {
			t.Errorf("Next at %d: %x %d, then at %d", index, v, e, s.Index())
		}
		for _, n := range []int64{1, 2, 6, huge, most} {
			s := moved(t, 9, 4, index)
			if d, e := s.Draw(n); d != belowOf(valueOf(key, index), n) || e != api.OK || s.Index() != index+1 {
				t.Errorf("Draw(%d) at %d: %d %d, then at %d", n, index, d, e, s.Index())
			}
		}
	}
}

func TestDrawOfAStreamBelowNoBound(t *testing.T) {
	for _, n := range noBounds {
		for _, index := range append([]int{last}, indexes...) {
			s := moved(t, 9, 4, index)
			if d, e := s.Draw(n); d != 0 || e != rng.ErrBound || s.Index() != index {
				t.Errorf("Draw(%d) at %d: %d %d, then at %d", n, index, d, e, s.Index())
			}
		}
	}
}

func TestStreamsEnd(t *testing.T) {
	s := moved(t, 9, 4, last-2)
	key := mix.Join(9, 4)
	if v, e := s.Next(); v != valueOf(key, last-2) || e != api.OK || s.Index() != last-1 {
		t.Errorf("%x %d, then at %d", v, e, s.Index())
	}
	if d, e := s.Draw(most); d != belowOf(valueOf(key, last-1), most) || e != api.OK || s.Index() != last {
		t.Errorf("%d %d, then at %d", d, e, s.Index())
	}
	for range 3 {
		if v, e := s.Next(); v != 0 || e != api.ErrFull || s.Index() != last {
			t.Errorf("%x %d, then at %d", v, e, s.Index())
		}
		for _, n := range []int64{1, 6, most} {
			if d, e := s.Draw(n); d != 0 || e != api.ErrFull || s.Index() != last {
				t.Errorf("Draw(%d): %d %d, then at %d", n, d, e, s.Index())
			}
		}
		if d, e := s.Draw(0); d != 0 || e != rng.ErrBound || s.Index() != last {
			t.Errorf("Draw(0): %d %d, then at %d", d, e, s.Index())
		}
	}
	if e := s.Move(0); e != api.OK {
		t.Error(e)
	}
	if v, e := s.Next(); v != valueOf(key, 0) || e != api.OK || s.Index() != 1 {
		t.Errorf("%x %d, then at %d", v, e, s.Index())
	}
}

func TestMove(t *testing.T) {
	s := made(t, 5, 65536)
	for _, index := range append(slices.Clone(indexes), last, 7, 0, last, 7, 7) {
		if e := s.Move(index); e != api.OK || s.Index() != index {
			t.Errorf("Move(%d): %d, then at %d", index, e, s.Index())
		}
	}
}

func TestMoveToNoPlace(t *testing.T) {
	for _, from := range []int{0, 7, 1 << 48, last} {
		s := moved(t, 5, 2, from)
		for _, index := range []int{-1, -2, -huge, last + 1, last + 2, 1 << 49, most, least} {
			if e := s.Move(index); e != api.ErrArg || s.Index() != from {
				t.Errorf("Move(%d) at %d: %d, then at %d", index, from, e, s.Index())
			}
		}
		v, e := s.Next()
		if want, full := rng.Value(5, 2, from); from <= rng.MaxIndex && (v != want || e != full) || from > rng.MaxIndex && (v != 0 || e != api.ErrFull) {
			t.Errorf("Next at %d: %x %d", from, v, e)
		}
	}
}

func TestNoStreams(t *testing.T) {
	for i, s := range []*rng.Stream{nil, {}, new(rng.Stream)} {
		for range 2 {
			if v, e := s.Next(); v != 0 || e != api.ErrNil {
				t.Errorf("%d: Next: %x %d", i, v, e)
			}
			for _, n := range []int64{1, 6, most, 0, -1, least} {
				if d, e := s.Draw(n); d != 0 || e != api.ErrNil {
					t.Errorf("%d: Draw(%d): %d %d", i, n, d, e)
				}
			}
			for _, index := range []int{0, 1, last, -1, last + 1} {
				if e := s.Move(index); e != api.ErrNil {
					t.Errorf("%d: Move(%d): %d", i, index, e)
				}
			}
			if s.Index() != 0 {
				t.Errorf("%d: at %d", i, s.Index())
			}
		}
	}
}

func TestStreamsAreApart(t *testing.T) {
	a, b, c := made(t, 5, 1), made(t, 5, 1), made(t, 5, 2)
	if e := b.Move(100); e != api.OK {
		t.Fatal(e)
	}
	for i := range 50 {
		for _, s := range []struct {
			stream         *rng.Stream
			process, index int
		}{{a, 1, i}, {b, 1, 100 + i}, {c, 2, i}} {
			if v, e := s.stream.Next(); v != valueOf(mix.Join(5, uint64(s.process)), s.index) || e != api.OK || s.stream.Index() != s.index+1 {
				t.Fatalf("%d at %d: %x %d, then at %d", s.process, s.index, v, e, s.stream.Index())
			}
		}
	}
}

// P6.6

func TestAStreamHasNoNumberTwice(t *testing.T) {
	for _, from := range []int{0, 1<<48 + 1 - many} {
		s := moved(t, 77, 16, from)
		met := map[uint64]int{}
		for range many {
			index := s.Index()
			v, e := s.Next()
			if other, is := met[v]; is || e != api.OK {
				t.Fatalf("%x %d at %d, and at %d", v, e, index, other)
			}
			met[v] = index
			if at, e := rng.Find(77, 16, v); at != index || e != api.OK {
				t.Fatalf("%x at %d is found at %d %d", v, index, at, e)
			}
		}
	}
}

func TestNumbersBelowABoundAreOfAboutAsMany(t *testing.T) {
	for _, n := range bounds() {
		share := new(big.Int).Div(word, big.NewInt(n))
		for _, k := range within(n) {
			first, last, e := rng.Range(n, k)
			size := new(big.Int).Sub(whole(last), whole(first))
			more := size.Add(size, big.NewInt(1)).Sub(size, share) // than the share, rounded down
			exact := new(big.Int).Mod(word, big.NewInt(n)).Sign() == 0
			if e != api.OK || more.Sign() != 0 && (exact || more.Cmp(big.NewInt(1)) != 0) {
				t.Fatalf("Range(%d, %d): %d %d %d", n, k, first, last, e)
			}
		}
	}
}

func TestRangesAreAllNumbers(t *testing.T) {
	for n := range int64(300) {
		n++
		var next uint64
		for k := range n {
			first, last, e := rng.Range(n, k)
			if first != next || last < first || e != api.OK {
				t.Fatalf("Range(%d, %d): %d %d %d, not from %d on", n, k, first, last, e, next)
			}
			next = last + 1
		}
		if next != 0 {
			t.Fatalf("the ranges of %d end at %d", n, next)
		}
	}
}

func TestNumbersBelowABoundKeepTheOrder(t *testing.T) {
	l := numbers()
	for _, n := range bounds() {
		var before int64
		for _, v := range l {
			k, e := rng.Below(v, n)
			if k < before || k >= n || e != api.OK {
				t.Fatalf("Below(%x, %d): %d %d, behind %d", v, n, k, e, before)
			}
			before = k
		}
	}
}

func TestWhatIsDrawnDependsOnTheIndexAlone(t *testing.T) {
	forward, backward, bounded := made(t, 3, 8), made(t, 3, 8), made(t, 3, 8)
	var drawn []int64
	for range 200 {
		d, _ := forward.Draw(1000)
		drawn = append(drawn, d)
	}
	for index := 199; index >= 0; index-- {
		if e := backward.Move(index); e != api.OK {
			t.Fatal(e)
		}
		if d, e := backward.Draw(1000); d != drawn[index] || e != api.OK {
			t.Errorf("back to %d: %d %d, not %d", index, d, e, drawn[index])
		}
		if d, e := rng.Draw(3, 8, index, 1000); d != drawn[index] || e != api.OK {
			t.Errorf("Draw(3, 8, %d, 1000): %d %d, not %d", index, d, e, drawn[index])
		}
	}
	for index := range 200 {
		if index%2 == 0 {
			bounded.Draw(0) // is refused
			bounded.Draw(int64(index) + 1)
			continue
		}
		if d, e := bounded.Draw(1000); d != drawn[index] || e != api.OK {
			t.Errorf("behind other bounds, at %d: %d %d, not %d", index, d, e, drawn[index])
		}
	}
}
