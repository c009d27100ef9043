package num_test

import (
	"bytes"
	"cmp"
	"encoding/binary"
	"math"
	"slices"
	"testing"

	"fermata/api"
	"fermata/num"
)

// written are numbers with their forms, written out by hand.
var written = []struct {
	x    uint64
	form []byte
}{
	{0, []byte{0}},
	{1, []byte{1}},
	{245, []byte{245}},
	{246, []byte{246}},
	{247, []byte{247, 247}},
	{248, []byte{247, 248}},
	{255, []byte{247, 255}},
	{256, []byte{248, 1, 0}},
	{0x102, []byte{248, 1, 2}},
	{0xffff, []byte{248, 255, 255}},
	{0x10000, []byte{249, 1, 0, 0}},
	{0x10203, []byte{249, 1, 2, 3}},
	{0xffffff, []byte{249, 255, 255, 255}},
	{0x1000000, []byte{250, 1, 0, 0, 0}},
	{0x1020304, []byte{250, 1, 2, 3, 4}},
	{0xffffffff, []byte{250, 255, 255, 255, 255}},
	{0x100000000, []byte{251, 1, 0, 0, 0, 0}},
	{0x102030405, []byte{251, 1, 2, 3, 4, 5}},
	{0xffffffffff, []byte{251, 255, 255, 255, 255, 255}},
	{0x10000000000, []byte{252, 1, 0, 0, 0, 0, 0}},
	{0x10203040506, []byte{252, 1, 2, 3, 4, 5, 6}},
	{0xffffffffffff, []byte{252, 255, 255, 255, 255, 255, 255}},
	{0x1000000000000, []byte{253, 1, 0, 0, 0, 0, 0, 0}},
	{0x1020304050607, []byte{253, 1, 2, 3, 4, 5, 6, 7}},
	{0xffffffffffffff, []byte{253, 255, 255, 255, 255, 255, 255, 255}},
	{0x100000000000000, []byte{254, 1, 0, 0, 0, 0, 0, 0, 0}},
	{0x102030405060708, []byte{254, 1, 2, 3, 4, 5, 6, 7, 8}},
	{1 << 63, []byte{254, 128, 0, 0, 0, 0, 0, 0, 0}},
	{1<<63 - 1, []byte{254, 127, 255, 255, 255, 255, 255, 255, 255}},
	{1<<64 - 1, []byte{254, 255, 255, 255, 255, 255, 255, 255, 255}},
}

// numbers returns those around every power of 2, those of few bits, and some with digits of all kinds, in order.
func numbers() []uint64 {
	var l []uint64
	for x := range uint64(600) {
		l = append(l, x)
	}
	for k := range 64 {
		p := uint64(1) << k
		l = append(l, p-1, p, p+1, -p, ^p)
	}
	x := uint64(1)
	for i := range 500 {
		x = x*0x9e3779b97f4a7c15 + 1
		l = append(l, x>>(i%64))
	}
	slices.Sort(l)
	return slices.Compact(l)
}

// form is what the document says the form of a number is.
func form(x uint64) []byte {
	if x <= 246 {
		return []byte{byte(x)}
	}
	digits := bytes.TrimLeft(binary.BigEndian.AppendUint64(nil, x), "\x00")
	return append([]byte{byte(246 + len(digits))}, digits...)
}

// read is what the document says about reading a form at the beginning of bytes.
func read(b []byte) (uint64, int, api.Errno) {
	if len(b) == 0 {
		return 0, 0, num.ErrShort
	}
	if b[0] <= 246 {
		return uint64(b[0]), 1, api.OK
	}
	if b[0] == 255 {
		return 0, 0, num.ErrForm
	}
	n := int(b[0]) - 246
	if len(b)-1 < n {
		return 0, 0, num.ErrShort
	}
	var whole [8]byte
	copy(whole[8-n:], b[1:1+n])
	x := binary.BigEndian.Uint64(whole[:])
	if b[1] == 0 || x <= 246 {
		return 0, 0, num.ErrForm
	}
	return x, 1 + n, api.OK
}

// strings yields all bytes of up to a length, of an alphabet.
func strings(alphabet []byte, most int) func(yield func([]byte) bool) {
	return func(yield func([]byte) bool) {
		var below func(b []byte) bool
		below = func(b []byte) bool {
			if !yield(slices.Clone(b)) {
				return false
			}
			if len(b) == most {
				return true
			}
			for _, c := range alphabet {
				if !below(append(b, c)) {
					return false
				}
			}
			return true
		}
		below(nil)
	}
}

// telling are the bytes at which something changes.
var telling = []byte{0, 1, 2, 5, 127, 128, 245, 246, 247, 248, 249, 250, 254, 255}

// kept calls a function with bytes that have room behind them, and reports whether all of them stay as they were.
func kept(b []byte, f func([]byte)) bool {
	room := append(slices.Clone(b), 1, 2, 3, 4, 5, 6, 7, 8, 9, 10)
	before := slices.Clone(room)
	f(room[:len(b)])
	return slices.Equal(room, before)
}

// P1.1

func TestSizeAndAppendWriteForms(t *testing.T) {
	for _, c := range written {
		if got := num.Append(nil, c.x); !slices.Equal(got, c.form) {
			t.Errorf("Append(nil, %d) = %v, want %v", c.x, got, c.form)
		}
		if got := num.Size(c.x); got != len(c.form) {
			t.Errorf("Size(%d) = %d, want %d", c.x, got, len(c.form))
		}
	}
	for _, x := range numbers() {
		want := form(x)
		if got := num.Append(nil, x); !slices.Equal(got, want) {
			t.Errorf("Append(nil, %d) = %v, want %v", x, got, want)
		}
		if got := num.Size(x); got != len(want) || got < 1 || got > num.MaxSize {
			t.Errorf("Size(%d) = %d, want %d", x, got, len(want))
		}
	}
}

func TestAppendKeepsTheBytesInFront(t *testing.T) {
	for _, front := range [][]byte{nil, {}, {7}, {247, 0}, {255, 255, 255}, bytes.Repeat([]byte{9}, 100)} {
		for _, room := range []int{0, 1, 2, 20} {
			for _, c := range written {
				b := append(make([]byte, 0, len(front)+room), front...)
				got := num.Append(b, c.x)
				if !slices.Equal(got, slices.Concat(front, c.form)) {
					t.Errorf("Append(%v, %d) = %v with room for %d", front, c.x, got, room)
				}
				if !slices.Equal(b, front) {
					t.Errorf("Append(%v, %d) modified its argument: %v", front, c.x, b)
				}
			}
		}
	}
}

func TestAppendWritesNothingBehindTheForm(t *testing.T) {
	for _, c := range written {
		room := bytes.Repeat([]byte{77}, 20)
		num.Append(room[:3], c.x)
		if behind := room[3+len(c.form):]; !slices.Equal(behind, bytes.Repeat([]byte{77}, len(behind))) {
			t.Errorf("Append of %d wrote behind its form: %v", c.x, room)
		}
	}
}

func TestFoldAndUnfold(t *testing.T) {
	for _, c := range []struct {
		y int64
		x uint64
	}{
		{0, 0}, {-1, 1}, {1, 2}, {-2, 3}, {2, 4}, {-3, 5}, {3, 6}, {123, 246}, {-124, 247}, {-128, 255}, {128, 256},
		{1 << 62, 1 << 63}, {-1 << 62, 1<<63 - 1}, {-1<<62 - 1, 1<<63 + 1},
		{math.MaxInt64 - 1, 1<<64 - 4}, {math.MinInt64 + 1, 1<<64 - 3}, {math.MaxInt64, 1<<64 - 2}, {math.MinInt64, 1<<64 - 1},
	} {
		if got := num.Fold(c.y); got != c.x {
			t.Errorf("Fold(%d) = %d, want %d", c.y, got, c.x)
		}
		if got := num.Unfold(c.x); got != c.y {
			t.Errorf("Unfold(%d) = %d, want %d", c.x, got, c.y)
		}
	}
	for _, x := range numbers() {
		if got := num.Fold(num.Unfold(x)); got != x {
			t.Errorf("Fold(Unfold(%d)) = %d", x, got)
		}
		y := int64(x)
		want := 2 * x
		if y < 0 {
			want = -(2 * x) - 1
		}
		if got := num.Fold(y); got != want || num.Unfold(got) != y {
			t.Errorf("Fold(%d) = %d, want %d, and %d is unfolded", y, got, want, num.Unfold(got))
		}
	}
}

// P1.2

func TestReadReadsForms(t *testing.T) {
	for _, c := range written {
		for _, front := range [][]byte{nil, {0}, {255}, {1, 248, 1, 0}} {
			for _, behind := range [][]byte{nil, {0}, {255}, {1, 2, 3}} {
				x, n, e := num.Read(slices.Concat(front, c.form, behind), len(front))
				if x != c.x || n != len(c.form) || e != api.OK {
					t.Errorf("Read(%v %v %v) = %d, %d, %d, want %d", front, c.form, behind, x, n, e, c.x)
				}
			}
		}
	}
	for _, want := range numbers() {
		if x, n, e := num.Read(append(form(want), 9), 0); x != want || n != len(form(want)) || e != api.OK {
			t.Errorf("Read of %d: %d, %d, %d", want, x, n, e)
		}
	}
}

func TestReadOfOffsetsThatThereAreNot(t *testing.T) {
	for _, c := range []struct {
		b  []byte
		at int
		e  api.Errno
	}{
		{nil, -1, api.ErrArg}, {nil, 0, num.ErrShort}, {nil, 1, api.ErrArg}, {[]byte{}, 0, num.ErrShort},
		{[]byte{5}, -1, api.ErrArg}, {[]byte{5}, 1, num.ErrShort}, {[]byte{5}, 2, api.ErrArg},
		{[]byte{255}, -1, api.ErrArg}, {[]byte{255}, 1, num.ErrShort}, {[]byte{248}, 2, api.ErrArg},
		{[]byte{5, 6, 7}, math.MinInt, api.ErrArg}, {[]byte{5, 6, 7}, math.MaxInt, api.ErrArg}, {[]byte{5, 6, 7}, 4, api.ErrArg}, {[]byte{5, 6, 7}, 3, num.ErrShort},
		{[]byte{1, 2, 3, 4}[:2], 3, api.ErrArg}, {[]byte{1, 2, 3, 4}[:2], 2, num.ErrShort},
	} {
		if x, n, e := num.Read(c.b, c.at); x != 0 || n != 0 || e != c.e {
			t.Errorf("Read(%v, %d) = %d, %d, %d, want error %d", c.b, c.at, x, n, e, c.e)
		}
	}
}

// unread are bytes that begin with no form.
var unread = []struct {
	b []byte
	e api.Errno
}{
	{nil, num.ErrShort},
	{[]byte{255}, num.ErrForm}, {[]byte{255, 1}, num.ErrForm}, {[]byte{255, 1, 2, 3, 4, 5, 6, 7, 8, 9, 10}, num.ErrForm},
	{[]byte{247}, num.ErrShort}, {[]byte{248}, num.ErrShort}, {[]byte{254}, num.ErrShort},
	{[]byte{248, 1}, num.ErrShort}, {[]byte{249, 1, 0}, num.ErrShort}, {[]byte{254, 1, 2, 3, 4, 5, 6, 7}, num.ErrShort},
	{[]byte{248, 0}, num.ErrShort}, {[]byte{254, 0, 0, 0, 0, 0, 0, 0}, num.ErrShort},
	{[]byte{247, 0}, num.ErrForm}, {[]byte{247, 1}, num.ErrForm}, {[]byte{247, 245}, num.ErrForm}, {[]byte{247, 246}, num.ErrForm},
	{[]byte{248, 0, 0}, num.ErrForm}, {[]byte{248, 0, 5}, num.ErrForm}, {[]byte{248, 0, 246}, num.ErrForm}, {[]byte{248, 0, 247}, num.ErrForm}, {[]byte{248, 0, 255}, num.ErrForm},
	{[]byte{249, 0, 1, 0}, num.ErrForm}, {[]byte{250, 0, 255, 255, 255}, num.ErrForm}, {[]byte{251, 0, 1, 2, 3, 4}, num.ErrForm}, {[]byte{252, 0, 1, 2, 3, 4, 5}, num.ErrForm},
	{[]byte{253, 0, 1, 2, 3, 4, 5, 6}, num.ErrForm}, {[]byte{254, 0, 1, 2, 3, 4, 5, 6, 7}, num.ErrForm}, {[]byte{254, 0, 0, 0, 0, 0, 0, 0, 0}, num.ErrForm},
}

func TestReadOfBytesThatAreNoForm(t *testing.T) {
	for _, c := range unread {
		for _, front := range [][]byte{nil, {0}, {254}} {
			if x, n, e := num.Read(slices.Concat(front, c.b), len(front)); x != 0 || n != 0 || e != c.e {
				t.Errorf("Read(%v %v) = %d, %d, %d, want error %d", front, c.b, x, n, e, c.e)
			}
		}
	}
}

func TestReadStaysWithinItsBytes(t *testing.T) {
	for _, c := range written {
		for n := range len(c.form) {
			if x, size, e := num.Read(c.form[:n], 0); x != 0 || size != 0 || e != num.ErrShort {
				t.Errorf("Read(%v) = %d, %d, %d, with room for more", c.form[:n], x, size, e)
			}
		}
	}
}

func TestReadOfAllShortBytes(t *testing.T) {
	for b := range strings(telling, 4) {
		for at := range len(b) + 1 {
			x, n, e := num.Read(b, at)
			if wx, wn, we := read(b[at:]); x != wx || n != wn || e != we {
				t.Fatalf("Read(%v, %d) = %d, %d, %d, want %d, %d, %d", b, at, x, n, e, wx, wn, we)
			}
		}
	}
	for a := range 256 {
		for c := range 256 {
			b := []byte{byte(a), byte(c)}
			x, n, e := num.Read(b, 0)
			if wx, wn, we := read(b); x != wx || n != wn || e != we {
				t.Fatalf("Read(%v, 0) = %d, %d, %d, want %d, %d, %d", b, x, n, e, wx, wn, we)
			}
		}
	}
}

// P1.3

func TestLast(t *testing.T) {
	for _, c := range written {
		if x, n, e := num.Last(c.form); x != c.x || n != len(c.form) || e != api.OK {
			t.Errorf("Last(%v) = %d, %d, %d, want %d", c.form, x, n, e, c.x)
		}
		for _, behind := range [][]byte{{0}, {255}, {247}, {1, 2}} {
			if x, n, e := num.Last(slices.Concat(c.form, behind)); x != 0 || n != 0 || e != num.ErrForm {
				t.Errorf("Last(%v %v) = %d, %d, %d, want ErrForm", c.form, behind, x, n, e)
			}
		}
	}
	for _, c := range unread {
		if x, n, e := num.Last(c.b); x != 0 || n != 0 || e != c.e {
			t.Errorf("Last(%v) = %d, %d, %d, want error %d", c.b, x, n, e, c.e)
		}
	}
	for b := range strings(telling, 4) {
		wx, wn, we := read(b)
		if we == api.OK && wn < len(b) {
			wx, wn, we = 0, 0, num.ErrForm
		}
		if x, n, e := num.Last(b); x != wx || n != wn || e != we {
			t.Fatalf("Last(%v) = %d, %d, %d, want %d, %d, %d", b, x, n, e, wx, wn, we)
		}
	}
}

func TestInt(t *testing.T) {
	for _, c := range []struct {
		x           uint64
		least, most int
		right       bool
	}{
		{5, 0, 9, true}, {5, 5, 5, true}, {5, 5, 9, true}, {5, 0, 5, true}, {5, 6, 9, false}, {5, 0, 4, false}, {5, 9, 0, false}, {5, 6, 4, false},
		{0, 0, 0, true}, {0, -1, 1, true}, {0, -9, -1, false}, {0, 1, 9, false}, {0, math.MinInt, math.MaxInt, true}, {0, math.MaxInt, math.MinInt, false},
		{246, 0, 245, false}, {247, 0, 247, true}, {256, 257, 999, false}, {256, 256, 256, true}, {api.MaxTime, 0, api.MaxTime, true}, {api.MaxTime + 1, 0, api.MaxTime, false},
		{math.MaxInt, 0, math.MaxInt, true}, {math.MaxInt, math.MaxInt, math.MaxInt, true}, {math.MaxInt, 0, math.MaxInt - 1, false}, {math.MaxInt - 1, math.MaxInt, math.MaxInt, false},
		{math.MaxInt + 1, 0, math.MaxInt, false}, {math.MaxInt + 1, math.MinInt, math.MaxInt, false}, {math.MaxInt + 1, math.MinInt, -1, false}, {math.MaxInt + 1, math.MinInt, math.MinInt, false},
		{math.MaxUint64, math.MinInt, math.MaxInt, false}, {math.MaxUint64, -1, -1, false}, {math.MaxUint64, -1, 0, false}, {math.MaxUint64 - 4, -5, -5, false},
	} {
		b := slices.Concat([]byte{255}, form(c.x), []byte{7})
		wantNumber, wantSize, want := int(c.x), len(form(c.x)), api.OK
		if !c.right {
			wantNumber, wantSize, want = 0, 0, num.ErrRange
		}
		if x, n, e := num.Int(b, 1, c.least, c.most); x != wantNumber || n != wantSize || e != want {
			t.Errorf("Int(%d from %d to %d) = %d, %d, %d, want %d, %d, %d", c.x, c.least, c.most, x, n, e, wantNumber, wantSize, want)
		}
	}
}

func TestIntHasTheErrorsOfReadFirst(t *testing.T) {
	for _, limits := range [][2]int{{0, 9}, {9, 0}, {math.MinInt, math.MaxInt}, {-2, -1}} {
		for _, c := range unread {
			if x, n, e := num.Int(slices.Concat([]byte{1}, c.b), 1, limits[0], limits[1]); x != 0 || n != 0 || e != c.e {
				t.Errorf("Int(%v, %v) = %d, %d, %d, want error %d", c.b, limits, x, n, e, c.e)
			}
		}
		for _, at := range []int{math.MinInt, -1, 3, math.MaxInt} {
			if x, n, e := num.Int([]byte{5, 5}, at, limits[0], limits[1]); x != 0 || n != 0 || e != api.ErrArg {
				t.Errorf("Int at %d: %d, %d, %d, want ErrArg", at, x, n, e)
			}
		}
	}
}

// P1.4

func TestAllAndSplit(t *testing.T) {
	var wrote []uint64
	var behind []byte
	for _, c := range written {
		wrote, behind = append(wrote, c.x), append(behind, c.form...)
	}
	for _, c := range []struct {
		l []uint64
		b []byte
	}{
		{nil, nil}, {[]uint64{}, []byte{}}, {[]uint64{0}, []byte{0}}, {[]uint64{0, 0, 0}, []byte{0, 0, 0}},
		{[]uint64{5, 255, 0}, []byte{5, 247, 255, 0}}, {[]uint64{256, 246, 247}, []byte{248, 1, 0, 246, 247, 247}},
		{wrote, behind},
	} {
		if got := num.All(c.l); !slices.Equal(got, c.b) {
			t.Errorf("All(%v) = %v, want %v", c.l, got, c.b)
		}
		if got, e := num.Split(c.b); !slices.Equal(got, c.l) || e != api.OK {
			t.Errorf("Split(%v) = %v, %d, want %v", c.b, got, e, c.l)
		}
	}
	l := numbers()
	if got, e := num.Split(num.All(l)); !slices.Equal(got, l) || e != api.OK {
		t.Errorf("Split(All(numbers)): %d numbers, error %d", len(got), e)
	}
}

func TestSplitHasTheFirstError(t *testing.T) {
	for _, c := range []struct {
		b []byte
		e api.Errno
	}{
		{[]byte{247}, num.ErrShort}, {[]byte{5, 248, 1}, num.ErrShort}, {[]byte{5, 5, 5, 254}, num.ErrShort},
		{[]byte{255}, num.ErrForm}, {[]byte{5, 255, 0}, num.ErrForm}, {[]byte{5, 247, 246, 248}, num.ErrForm}, {[]byte{5, 248, 0, 5}, num.ErrForm},
		{[]byte{247, 3, 255}, num.ErrForm}, {[]byte{255, 247}, num.ErrForm}, {[]byte{249, 1, 255}, num.ErrShort},
	} {
		if got, e := num.Split(c.b); len(got) != 0 || e != c.e {
			t.Errorf("Split(%v) = %v, %d, want error %d", c.b, got, e, c.e)
		}
	}
	for b := range strings(telling, 4) {
		var want []uint64
		e := api.OK
		for at := 0; at < len(b) && e == api.OK; {
			var x uint64
			var n int
			x, n, e = read(b[at:])
			want, at = append(want, x), at+n
		}
		if e != api.OK {
			want = nil
		}
		if got, ge := num.Split(b); !slices.Equal(got, want) || ge != e {
			t.Fatalf("Split(%v) = %v, %d, want %v, %d", b, got, ge, want, e)
		}
	}
}

// P1.5

func TestCompare(t *testing.T) {
	for _, c := range written {
		for _, d := range written {
			if got, e := num.Compare(c.form, d.form); got != cmp.Compare(c.x, d.x) || e != api.OK {
				t.Errorf("Compare(%v, %v) = %d, %d", c.form, d.form, got, e)
			}
		}
	}
}

func TestCompareHasTheErrorOfTheFirstFormFirst(t *testing.T) {
	right := []byte{5}
	wrong := append(slices.Clone(unread), struct {
		b []byte
		e api.Errno
	}{[]byte{5, 5}, num.ErrForm})
	for _, c := range wrong {
		if got, e := num.Compare(c.b, right); got != 0 || e != c.e {
			t.Errorf("Compare(%v, 5) = %d, %d, want error %d", c.b, got, e, c.e)
		}
		if got, e := num.Compare(right, c.b); got != 0 || e != c.e {
			t.Errorf("Compare(5, %v) = %d, %d, want error %d", c.b, got, e, c.e)
		}
		for _, d := range wrong {
			if got, e := num.Compare(c.b, d.b); got != 0 || e != c.e {
				t.Errorf("Compare(%v, %v) = %d, %d, want error %d", c.b, d.b, got, e, c.e)
			}
		}
	}
}

// P1.6

func TestEachNumberHasOneForm(t *testing.T) {
	for b := range strings(telling, 4) {
		if x, n, e := num.Last(b); e == api.OK && (!slices.Equal(num.Append(nil, x), b) || n != num.Size(x)) {
			t.Fatalf("%v is read as %d, whose form is %v", b, x, num.Append(nil, x))
		}
	}
}

func TestFormsAreInOrderAndApart(t *testing.T) {
	l := numbers()
	for i, x := range l {
		a := num.Append(nil, x)
		for _, y := range l[i+1:] {
			b := num.Append(nil, y)
			if bytes.HasPrefix(b, a) || bytes.HasPrefix(a, b) {
				t.Fatalf("one of the forms of %d and %d begins the other", x, y)
			}
			if bytes.Compare(a, b) >= 0 {
				t.Fatalf("the form of %d is not below that of %d", x, y)
			}
		}
	}
}

func TestListsOfOneLengthAreInOrder(t *testing.T) {
	short := []uint64{0, 5, 246, 247, 255, 256, 1 << 40, math.MaxUint64}
	var lists [][]uint64
	for _, x := range short {
		for _, y := range short {
			for _, z := range short {
				lists = append(lists, []uint64{x, y, z})
			}
		}
	}
	for _, l := range lists {
		for _, m := range lists {
			if bytes.Compare(num.All(l), num.All(m)) != slices.Compare(l, m) {
				t.Fatalf("the forms of %v and %v are not in the order of the lists", l, m)
			}
		}
	}
}

func TestFoldsAreInTheOrderOfAbsoluteValues(t *testing.T) {
	for _, x := range numbers() {
		if x == 0 || x > 1<<63 {
			continue
		}
		y := int64(x) // of the absolute value x, or x is 2^63
		least, most := min(num.Fold(y), num.Fold(-y)), max(num.Fold(y), num.Fold(-y))
		below := int64(x - 1)
		if num.Fold(below) >= least || num.Fold(-below) >= least {
			t.Errorf("the folds of %d and %d are not below that of %d", below, -below, y)
		}
		if x < 1<<63 && most-least != 1 {
			t.Errorf("the folds of %d and %d are not beside each other", y, -y)
		}
	}
}

// Arguments stay as they are, and results are new.

func TestArgumentsAreKept(t *testing.T) {
	for b := range strings(telling, 3) {
		if !kept(b, func(b []byte) {
			num.Read(b, 0)
			num.Last(b)
			num.Int(b, 0, 0, 99)
			num.Split(b)
			num.Compare(b, b)
		}) {
			t.Fatalf("%v was modified", b)
		}
	}
	l := numbers()
	num.All(l[:9])
	if !slices.Equal(l, numbers()) {
		t.Error("All modified its argument")
	}
}

func TestResultsAreNew(t *testing.T) {
	l := []uint64{5, 255, 1 << 40}
	first := num.All(l)
	b := slices.Clone(first)
	clear(first)
	if second := num.All(l); !slices.Equal(second, b) {
		t.Error("All gives out what it gave out before:", second)
	}
	split, _ := num.Split(b)
	clear(split)
	if again, e := num.Split(b); !slices.Equal(again, l) || e != api.OK || !slices.Equal(b, num.All(l)) {
		t.Error("Split gives out what it gave out before:", again, e)
	}
}
