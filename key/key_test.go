package key_test

import (
	"bytes"
	"encoding/binary"
	"fmt"
	"math/big"
	"math/rand"
	"regexp"
	"slices"
	"testing"

	"fermata/api"
	"fermata/key"
)

const (
	most     = 1<<63 - 1 // the greatest number
	least    = -most - 1 // the least number
	huge     = 1 << 32   // what makes a wrong number look right if it is cut to 32 bits
	lastTime = 1 << 48
	lastSeq  = 1<<32 - 1
)

// Some values of fields that are right: the ends, and around powers of 2 and of 10.
var (
	times   = []int{0, 1, 2, 9, 10, 11, 99, 100, 255, 256, 257, 65535, 65536, 1<<24 - 1, 1 << 24, 1<<31 - 1, 1 << 31, 1<<32 - 1, 1 << 32, 1 << 40, 1<<47 + 12345, 1<<48 - 1, 1 << 48}
	sources = []int{0, 1, 2, 8, 9, 10, 11, 15, 16}
	seqs    = []int{0, 1, 2, 9, 10, 11, 255, 256, 257, 65535, 65536, 1<<24 - 1, 1 << 24, 1<<31 - 1, 1 << 31, 1<<32 - 2, 1<<32 - 1}
)

// And some that are not.
var (
	noTimes   = []int{-1, -2, -huge, -lastTime, lastTime + 1, lastTime + 2, 1 << 49, 1 << 56, 1 << 57, 1 << 62, most, least}
	noSources = []int{-1, -2, -16, -huge, 17, 18, 255, 256, 257, huge, huge + 1, most, least}
	noSeqs    = []int{-1, -2, -lastSeq, -huge, lastSeq + 1, lastSeq + 2, 1 << 40, lastTime, most, least}
)

// keysOf returns the keys with some fields.
func keysOf(times, sources, seqs []int) []api.Key {
	var l []api.Key
	for _, t := range times {
		for _, source := range sources {
			for _, seq := range seqs {
				l = append(l, api.Key{Time: t, Source: source, Seq: seq})
			}
		}
	}
	return l
}

// rightKeys returns keys that are right, in their order.
func rightKeys() []api.Key { return keysOf(times, sources, seqs) }

// wrongKeys returns keys that are not right: by one field, by two, and by all.
func wrongKeys() []api.Key {
	return slices.Concat(
		keysOf(noTimes, sources, seqs), keysOf(times, noSources, seqs), keysOf(times, sources, noSeqs),
		keysOf(noTimes, noSources, seqs), keysOf(noTimes, sources, noSeqs), keysOf(times, noSources, noSeqs),
		keysOf(noTimes, noSources, noSeqs),
	)
}

// fewKeys returns keys of which each has to be held against each: right ones, and others.
func fewKeys() []api.Key {
	return keysOf([]int{least, -1, 0, 1, 255, 256, lastTime - 1, lastTime, lastTime + 1, most}, []int{least, -1, 0, 1, 15, 16, 17, most}, []int{least, -1, 0, 255, 256, lastSeq, lastSeq + 1, most})
}

// fieldsOf are the fields of a key, in the order in which they count.
func fieldsOf(k api.Key) []int { return []int{k.Time, k.Source, k.Seq} }

// orderOf is by the document the order of keys.
func orderOf(a, b api.Key) int { return slices.Compare(fieldsOf(a), fieldsOf(b)) }

// isRight reports by the document whether a key is right.
func isRight(k api.Key) bool {
	return 0 <= k.Time && k.Time <= lastTime && 0 <= k.Source && k.Source <= 16 && 0 <= k.Seq && k.Seq <= lastSeq
}

// bytesOf are by the document the bytes of a right key.
func bytesOf(k api.Key) []byte {
	b := binary.BigEndian.AppendUint64(nil, uint64(k.Time))[1:]
	b = append(b, byte(k.Source))
	return binary.BigEndian.AppendUint32(b, uint32(k.Seq))
}

// rankOf is how many right keys are less than a right one.
func rankOf(k api.Key) *big.Int {
	n := big.NewInt(int64(k.Time))
	n.Mul(n, big.NewInt(17)).Add(n, big.NewInt(int64(k.Source)))
	return n.Mul(n, big.NewInt(1<<32)).Add(n, big.NewInt(int64(k.Seq)))
}

// keyOf is the right key that so many are less than.
func keyOf(rank *big.Int) api.Key {
	rest, seq := new(big.Int).DivMod(rank, big.NewInt(1<<32), new(big.Int))
	t, source := rest.DivMod(rest, big.NewInt(17), new(big.Int))
	return api.Key{Time: int(t.Int64()), Source: int(source.Int64()), Seq: int(seq.Int64())}
}

// examples are keys with their texts and bytes, by hand.
var examples = []struct {
	k    api.Key
	text string
	b    []byte
}{
	{api.Key{Time: 5, Source: 2, Seq: 7}, "5@2#7", []byte{0, 0, 0, 0, 0, 0, 5, 2, 0, 0, 0, 7}},
	{api.Key{}, "0@0#0", []byte{0, 0, 0, 0, 0, 0, 0, 0, 0, 0, 0, 0}},
	{api.Key{Time: 1 << 48, Source: 16, Seq: 1<<32 - 1}, "281474976710656@16#4294967295", []byte{1, 0, 0, 0, 0, 0, 0, 16, 255, 255, 255, 255}},
	{api.Key{Time: 1<<48 - 1}, "281474976710655@0#0", []byte{0, 255, 255, 255, 255, 255, 255, 0, 0, 0, 0, 0}},
	{api.Key{Time: 0x010203040506, Source: 10, Seq: 0x0708090a}, "1108152157446@10#117967114", []byte{0, 1, 2, 3, 4, 5, 6, 10, 7, 8, 9, 10}},
	{api.Key{Time: 10, Source: 1, Seq: 100}, "10@1#100", []byte{0, 0, 0, 0, 0, 0, 10, 1, 0, 0, 0, 100}},
	{api.Key{Time: 256, Source: 9, Seq: 256}, "256@9#256", []byte{0, 0, 0, 0, 0, 1, 0, 9, 0, 0, 1, 0}},
}

// P7.1

func TestConstants(t *testing.T) {
	if key.MaxSource != 16 || key.MaxSeq != 4294967295 || key.Size != 12 {
		t.Error(key.MaxSource, key.MaxSeq, key.Size)
	}
	if key.ErrKey != 70 || key.ErrBytes != 71 || key.ErrText != 72 || key.ErrOrder != 73 {
		t.Error(key.ErrKey, key.ErrBytes, key.ErrText, key.ErrOrder)
	}
}

func TestRight(t *testing.T) {
	for _, k := range rightKeys() {
		if !key.Right(k) {
			t.Errorf("Right(%v): false", k)
		}
	}
	for _, k := range wrongKeys() {
		if key.Right(k) {
			t.Errorf("Right(%v): true", k)
		}
	}
}

func TestCompareByHand(t *testing.T) {
	for _, c := range []struct {
		a, b api.Key
		c    int
		by   int
	}{
		{api.Key{Time: 5, Source: 2, Seq: 7}, api.Key{Time: 5, Source: 3}, -1, 2},
		{api.Key{Time: 5, Source: 3}, api.Key{Time: 5, Source: 2, Seq: 7}, 1, 2},
		{api.Key{}, api.Key{}, 0, 0},
		{api.Key{Time: 5, Source: 2, Seq: 7}, api.Key{Time: 5, Source: 2, Seq: 7}, 0, 0},
		{api.Key{Time: 4, Source: 9, Seq: 9}, api.Key{Time: 5, Source: 2, Seq: 7}, -1, 1},
		{api.Key{Time: 6}, api.Key{Time: 5, Source: 2, Seq: 7}, 1, 1},
		{api.Key{Time: 5, Source: 2, Seq: 6}, api.Key{Time: 5, Source: 2, Seq: 7}, -1, 3},
		{api.Key{Time: 5, Source: 2, Seq: 8}, api.Key{Time: 5, Source: 2, Seq: 7}, 1, 3},
		{api.Key{Time: 9}, api.Key{Time: 10}, -1, 1},
		{api.Key{Time: least}, api.Key{Time: most}, -1, 1},
		{api.Key{Time: most}, api.Key{Time: least}, 1, 1},
		{api.Key{Source: least}, api.Key{Source: most}, -1, 2},
		{api.Key{Source: most}, api.Key{Source: -2}, 1, 2},
		{api.Key{Seq: least}, api.Key{Seq: 1}, -1, 3},
		{api.Key{Seq: most}, api.Key{Seq: least}, 1, 3},
		{api.Key{Seq: huge}, api.Key{}, 1, 3},
		{api.Key{Time: -1, Source: 17, Seq: -1}, api.Key{Time: -1, Source: 17, Seq: -1}, 0, 0},
	} {
		if got, by := key.Compare(c.a, c.b); got != c.c || by != c.by {
			t.Errorf("Compare(%v, %v): %d %d", c.a, c.b, got, by)
		}
	}
}

func TestCompare(t *testing.T) {
	l := fewKeys()
	for _, a := range l {
		for _, b := range l {
			by := 0
			for i, x := range fieldsOf(a) {
				if by == 0 && x != fieldsOf(b)[i] {
					by = i + 1
				}
			}
			if c, field := key.Compare(a, b); c != orderOf(a, b) || field != by {
				t.Fatalf("Compare(%v, %v): %d %d", a, b, c, field)
			}
		}
	}
}

// P7.2

func TestExamplesWithTheirBytes(t *testing.T) {
	for _, c := range examples {
		if b, e := key.Bytes(c.k); !slices.Equal(b, c.b) || e != api.OK {
			t.Errorf("Bytes(%v): %v %d", c.k, b, e)
		}
		if k, e := key.Read(c.b); k != c.k || e != api.OK {
			t.Errorf("Read(%v): %v %d", c.b, k, e)
		}
	}
}

func TestBytes(t *testing.T) {
	for _, k := range rightKeys() {
		if b, e := key.Bytes(k); !slices.Equal(b, bytesOf(k)) || e != api.OK {
			t.Fatalf("Bytes(%v): %v %d", k, b, e)
		}
	}
}

func TestBytesOfAWrongKey(t *testing.T) {
	for _, k := range wrongKeys() {
		if b, e := key.Bytes(k); len(b) != 0 || e != key.ErrKey {
			t.Fatalf("Bytes(%v): %v %d", k, b, e)
		}
	}
}

func TestBytesAreNew(t *testing.T) {
	k := examples[0].k
	b, _ := key.Bytes(k)
	for i := range b[:cap(b)] {
		b[:cap(b)][i] = 99
	}
	if again, e := key.Bytes(k); !slices.Equal(again, examples[0].b) || e != api.OK {
		t.Error(again, e)
	}
}

func TestReadWithAByteChanged(t *testing.T) {
	for _, k := range []api.Key{{}, {Time: 5, Source: 2, Seq: 7}, {Time: 1 << 48, Source: 16, Seq: lastSeq}, {Time: 1<<48 - 1, Source: 16}, {Time: 1 << 48}} {
		for at := range key.Size {
			for c := range 256 {
				b := bytesOf(k)
				b[at] = byte(c)
				want, we := api.Key{Time: int(binary.BigEndian.Uint64(append([]byte{0}, b[:7]...))), Source: int(b[7]), Seq: int(binary.BigEndian.Uint32(b[8:]))}, api.OK
				if !isRight(want) {
					want, we = api.Key{}, key.ErrBytes
				}
				given := slices.Clone(b)
				if got, e := key.Read(given); got != want || e != we || !slices.Equal(given, b) {
					t.Errorf("Read(%v): %v %d", b, got, e)
				}
			}
		}
	}
}

func TestReadBytesOfNoKey(t *testing.T) {
	for _, b := range [][]byte{
		{1, 0, 0, 0, 0, 0, 1, 0, 0, 0, 0, 0}, {1, 0, 0, 0, 0, 1, 0, 0, 0, 0, 0, 0}, {1, 1, 0, 0, 0, 0, 0, 0, 0, 0, 0, 0}, {2, 0, 0, 0, 0, 0, 0, 0, 0, 0, 0, 0}, {128, 0, 0, 0, 0, 0, 0, 0, 0, 0, 0, 0}, {255, 255, 255, 255, 255, 255, 255, 0, 0, 0, 0, 0},
		{0, 0, 0, 0, 0, 0, 0, 17, 0, 0, 0, 0}, {0, 0, 0, 0, 0, 0, 0, 128, 0, 0, 0, 0}, {0, 0, 0, 0, 0, 0, 0, 255, 0, 0, 0, 0}, {1, 0, 0, 0, 0, 0, 0, 17, 255, 255, 255, 255}, bytes.Repeat([]byte{255}, 12),
	} {
		if k, e := key.Read(b); k != (api.Key{}) || e != key.ErrBytes {
			t.Errorf("Read(%v): %v %d", b, k, e)
		}
	}
}

func TestReadTooFewOrTooManyBytes(t *testing.T) {
	for _, c := range examples {
		long := slices.Concat(c.b, c.b, c.b)
		for size := range len(long) + 1 {
			if size == key.Size {
				continue
			}
			for from := range len(long) + 1 - size {
				if k, e := key.Read(long[from : from+size]); k != (api.Key{}) || e != key.ErrBytes {
					t.Errorf("Read(%v): %v %d", long[from:from+size], k, e)
				}
			}
		}
	}
	if k, e := key.Read(nil); k != (api.Key{}) || e != key.ErrBytes {
		t.Errorf("Read(nil): %v %d", k, e)
	}
	if k, e := key.Read(make([]byte, 1<<16)); k != (api.Key{}) || e != key.ErrBytes {
		t.Errorf("Read of many bytes: %v %d", k, e)
	}
}

// P7.3

func TestExamplesWithTheirTexts(t *testing.T) {
	for _, c := range examples {
		if s, e := key.Text(c.k); s != c.text || e != api.OK {
			t.Errorf("Text(%v): %q %d", c.k, s, e)
		}
		if k, e := key.Parse(c.text); k != c.k || e != api.OK {
			t.Errorf("Parse(%q): %v %d", c.text, k, e)
		}
	}
}

func TestText(t *testing.T) {
	for _, k := range rightKeys() {
		want := fmt.Sprintf("%d@%d#%d", k.Time, k.Source, k.Seq)
		if s, e := key.Text(k); s != want || e != api.OK {
			t.Fatalf("Text(%v): %q %d", k, s, e)
		}
		if got, e := key.Parse(want); got != k || e != api.OK {
			t.Fatalf("Parse(%q): %v %d", want, got, e)
		}
	}
}

func TestTextOfAWrongKey(t *testing.T) {
	for _, k := range wrongKeys() {
		if s, e := key.Text(k); s != "" || e != key.ErrKey {
			t.Fatalf("Text(%v): %q %d", k, s, e)
		}
		s := fmt.Sprintf("%d@%d#%d", k.Time, k.Source, k.Seq)
		if got, e := key.Parse(s); got != (api.Key{}) || e != key.ErrText {
			t.Fatalf("Parse(%q): %v %d", s, got, e)
		}
	}
}

func TestParseNoText(t *testing.T) {
	for _, s := range []string{
		"05@2#7", "5@2", "5@17#0", "5@2#+7", // of the chapter
		"", " ", "@", "#", "@#", "0", "0@", "0@0", "0@0#", "@0#0", "0@#0", "@#0", "0@#", "#0", "0#0", "0#0@0", "@0", "0@@0#0", "0@0##0", "0#@0#0", "0@0#0#0", "0@0@0#0", "0@0#0@0", "0@0#0@", "0@0#0#", "@0@0#0", "#0@0#0",
		"00@0#0", "0@00#0", "0@0#00", "05@0#0", "0@05#0", "0@0#05", "005@0#0", "0@016#0", "0000000000000000000000@0#0", "0@0#0000000000000001",
		"+1@0#0", "0@+1#0", "0@0#+1", "-1@0#0", "0@-1#0", "0@0#-1", "-0@0#0", "0@-0#0", "0@0#-0", "+0@0#0",
		" 1@0#0", "1 @0#0", "1@ 0#0", "1@0 #0", "1@0# 0", "1@0#0 ", "1@0#0\n", "\n1@0#0", "1@0#0\x00", "\x001@0#0", "1\x00@0#0", "1@0#1_0", "1_0@0#0", "1,000@0#0", "1.0@0#0", "1e1@0#0", "0x1@0#0", "0b1@0#0", "1@0#0x1", "1@a#0", "a@0#0", "1@0#a", "1@0#f", "1@:#0", "1@/#0", "1@0#1:", "1@0#1/", "1:@0#0", "1/@0#0",
		"281474976710657@0#0", "281474976710660@0#0", "2814749767106560@0#0", "999999999999999@0#0", "1@17#0", "1@20#0", "1@99#0", "1@160#0", "1@256#0", "1@272#0", "0@0#4294967296", "0@0#4294967300", "0@0#42949672950", "0@0#9999999999",
		"9223372036854775807@0#0", "9223372036854775808@0#0", "18446744073709551615@0#0", "18446744073709551616@0#0", "18446744073709551617@0#0", "36893488147419103232@0#0", "0@18446744073709551616#0", "0@18446744073709551617#0", "0@0#18446744073709551616", "0@0#18446744073709551621", "0@0#99999999999999999999999999999999999999",
		"１@0#0", "1@٣#0", "1@0#é", "1＠0#0", "1@0＃0", "1@0#0\u0301", "1@0#\xff", "5;2;7", "5.2.7", "5@2/7", "(5@2#7)", "5@2#7 5@2#7", "5@2#75@2#7",
	} {
		if k, e := key.Parse(s); k != (api.Key{}) || e != key.ErrText {
			t.Errorf("Parse(%q): %v %d", s, k, e)
		}
	}
}

// textForm is what the document says the form of a text is, but for its greatest numbers.
var textForm = regexp.MustCompile(`\A(0|[1-9][0-9]*)@(0|[1-9][0-9]*)#(0|[1-9][0-9]*)\z`)

// parsed is by the document the right key whose text a string is.
func parsed(s string) (api.Key, api.Errno) {
	m := textForm.FindStringSubmatch(s)
	if m == nil {
		return api.Key{}, key.ErrText
	}
	var n [3]int
	for i, last := range []int64{lastTime, 16, lastSeq} {
		x, _ := new(big.Int).SetString(m[i+1], 10)
		if x.Cmp(big.NewInt(last)) > 0 {
			return api.Key{}, key.ErrText
		}
		n[i] = int(x.Int64())
	}
	return api.Key{Time: n[0], Source: n[1], Seq: n[2]}, api.OK
}

func TestParseAllShortStrings(t *testing.T) {
	const alphabet = "0179@#-"
	read := 0
	var grow func(s string)
	grow = func(s string) {
		want, we := parsed(s)
		if k, e := key.Parse(s); k != want || e != we {
			t.Fatalf("Parse(%q): %v %d", s, k, e)
		}
		if we == api.OK {
			read++
		}
		for i := 0; i < len(alphabet) && len(s) < 7; i++ {
			grow(s + alphabet[i:i+1])
		}
	}
	grow("")
	if read == 0 {
		t.Error("none is a text")
	}
}

func TestParseTextsWithAByteChanged(t *testing.T) {
	for _, c := range examples {
		for at := range len(c.text) {
			for x := range 256 {
				other := string([]byte{byte(x)})
				for _, s := range []string{c.text[:at] + other + c.text[at+1:], c.text[:at] + other + c.text[at:], c.text[:at] + c.text[at+1:], c.text + other} {
					want, we := parsed(s)
					if k, e := key.Parse(s); k != want || e != we {
						t.Fatalf("Parse(%q): %v %d", s, k, e)
					}
				}
			}
		}
	}
}

// P7.4

func TestNextAndBackByHand(t *testing.T) {
	for _, c := range []struct{ k, next api.Key }{
		{api.Key{Time: 5, Source: 2, Seq: lastSeq}, api.Key{Time: 5, Source: 3}},
		{api.Key{Time: 5, Source: 16, Seq: lastSeq}, api.Key{Time: 6}},
		{api.Key{Time: 5, Source: 2, Seq: 7}, api.Key{Time: 5, Source: 2, Seq: 8}},
		{api.Key{Time: 5, Source: 16}, api.Key{Time: 5, Source: 16, Seq: 1}},
		{api.Key{}, api.Key{Seq: 1}},
		{api.Key{Seq: lastSeq}, api.Key{Source: 1}},
		{api.Key{Source: 15, Seq: lastSeq}, api.Key{Source: 16}},
		{api.Key{Source: 16, Seq: lastSeq}, api.Key{Time: 1}},
		{api.Key{Time: lastTime - 1, Source: 16, Seq: lastSeq}, api.Key{Time: lastTime}},
		{api.Key{Time: lastTime}, api.Key{Time: lastTime, Seq: 1}},
		{api.Key{Time: lastTime, Source: 15, Seq: lastSeq}, api.Key{Time: lastTime, Source: 16}},
		{api.Key{Time: lastTime, Source: 16, Seq: lastSeq - 1}, api.Key{Time: lastTime, Source: 16, Seq: lastSeq}},
	} {
		if n, e := key.Next(c.k); n != c.next || e != api.OK {
			t.Errorf("Next(%v): %v %d", c.k, n, e)
		}
		if b, e := key.Back(c.next); b != c.k || e != api.OK {
			t.Errorf("Back(%v): %v %d", c.next, b, e)
		}
	}
}

func TestNextAndBack(t *testing.T) {
	one := big.NewInt(1)
	for _, k := range rightKeys() {
		rank := rankOf(k)
		if k != (api.Key{Time: lastTime, Source: 16, Seq: lastSeq}) {
			if n, e := key.Next(k); n != keyOf(new(big.Int).Add(rank, one)) || e != api.OK {
				t.Fatalf("Next(%v): %v %d", k, n, e)
			}
		}
		if k != (api.Key{}) {
			if b, e := key.Back(k); b != keyOf(new(big.Int).Sub(rank, one)) || e != api.OK {
				t.Fatalf("Back(%v): %v %d", k, b, e)
			}
		}
	}
}

func TestNoKeyIsGreaterOrLess(t *testing.T) {
	if n, e := key.Next(api.Key{Time: lastTime, Source: 16, Seq: lastSeq}); n != (api.Key{}) || e != api.ErrNone {
		t.Errorf("Next: %v %d", n, e)
	}
	if b, e := key.Back(api.Key{}); b != (api.Key{}) || e != api.ErrNone {
		t.Errorf("Back: %v %d", b, e)
	}
}

func TestNextAndBackOfAWrongKey(t *testing.T) {
	for _, k := range wrongKeys() {
		if n, e := key.Next(k); n != (api.Key{}) || e != key.ErrKey {
			t.Fatalf("Next(%v): %v %d", k, n, e)
		}
		if b, e := key.Back(k); b != (api.Key{}) || e != key.ErrKey {
			t.Fatalf("Back(%v): %v %d", k, b, e)
		}
	}
}

func TestEnds(t *testing.T) {
	for _, at := range times {
		first, last, e := key.Ends(at)
		if first != (api.Key{Time: at}) || last != (api.Key{Time: at, Source: 16, Seq: lastSeq}) || e != api.OK {
			t.Errorf("Ends(%d): %v %v %d", at, first, last, e)
		}
		if b, e := key.Back(first); at > 0 && (b.Time != at-1 || e != api.OK) {
			t.Errorf("Back(%v): %v %d", first, b, e)
		}
		if n, e := key.Next(last); at < lastTime && (n.Time != at+1 || e != api.OK) {
			t.Errorf("Next(%v): %v %d", last, n, e)
		}
	}
	for _, at := range noTimes {
		if first, last, e := key.Ends(at); first != (api.Key{}) || last != (api.Key{}) || e != api.ErrArg {
			t.Errorf("Ends(%d): %v %v %d", at, first, last, e)
		}
	}
}

// P7.5

// lists returns lists of all sizes up to some, of many keys or of few ones, and some longer ones.
func lists() [][]api.Key {
	l := [][]api.Key{nil, {}}
	few := fewKeys()
	r := rand.New(rand.NewSource(1))
	for size := range 80 {
		for _, kinds := range []int{1, 2, 3, 10, len(few)} {
			l = append(l, listOf(r, few, size, kinds))
		}
	}
	return append(l, listOf(r, few, 1000, 40), listOf(r, few, 3000, len(few)), few, slices.Repeat(few[:1], 100))
}

// listOf returns a list with a size, of so many kinds of keys at most.
func listOf(r *rand.Rand, keys []api.Key, size, kinds int) []api.Key {
	some := r.Perm(len(keys))[:kinds]
	l := make([]api.Key, size)
	for i := range l {
		l[i] = keys[some[r.Intn(kinds)]]
	}
	return l
}

// apart returns a list with room behind it, and all of its memory.
func apart(l []api.Key) ([]api.Key, []api.Key) {
	all := append(slices.Clone(l), api.Key{Time: 4}, api.Key{Time: 3}, api.Key{Time: 2})
	return all[:len(l)], all
}

func TestListsOfTheChapter(t *testing.T) {
	l := []api.Key{{Time: 5, Source: 1, Seq: 1}, {Time: 3}, {Time: 5, Source: 1, Seq: 1}}
	if at := key.Order(l); !slices.Equal(at, []int{1, 0, 2}) {
		t.Error(at)
	}
	if s := key.Sort(l); !slices.Equal(s, []api.Key{l[1], l[0]}) {
		t.Error(s)
	}
	if at, has, e := key.Search([]api.Key{l[1], l[0]}, api.Key{Time: 4}); at != 1 || has || e != api.OK {
		t.Error(at, has, e)
	}
}

func TestOrder(t *testing.T) {
	for _, l := range lists() {
		given, all := apart(l)
		before := slices.Clone(all)
		at := key.Order(given)
		if len(at) != len(l) {
			t.Fatalf("Order(%v): %v", l, at)
		}
		met := make([]bool, len(l))
		for i, index := range at {
			if index < 0 || index >= len(l) || met[index] {
				t.Fatalf("Order(%v): %v", l, at)
			}
			met[index] = true
			if i == 0 {
				continue
			}
			if c := orderOf(l[at[i-1]], l[index]); c > 0 || c == 0 && at[i-1] > index {
				t.Fatalf("Order(%v): %v", l, at)
			}
		}
		if !slices.Equal(all, before) {
			t.Fatalf("Order changed %v", l)
		}
	}
}

func TestSort(t *testing.T) {
	for _, l := range lists() {
		var want []api.Key // by hand: each key is put in front of the first greater one, if it is not there
		for _, k := range l {
			at := 0
			for at < len(want) && orderOf(want[at], k) < 0 {
				at++
			}
			if at == len(want) || want[at] != k {
				want = slices.Insert(want, at, k)
			}
		}
		given, all := apart(l)
		before := slices.Clone(all)
		s := key.Sort(given)
		if !slices.Equal(s, want) || !slices.Equal(all, before) {
			t.Fatalf("Sort(%v): %v", l, s)
		}
	}
}

func TestSortIsNew(t *testing.T) {
	for _, l := range [][]api.Key{{{Time: 1}}, {{Time: 1}, {Time: 2}, {Time: 3}}, {{Time: 1}, {Time: 1}}} {
		given, all := apart(l)
		before := slices.Clone(all)
		s := key.Sort(given)
		want := slices.Clone(s)
		for i := range s[:cap(s)] {
			s[:cap(s)][i] = api.Key{Time: 99}
		}
		if !slices.Equal(all, before) {
			t.Errorf("Sort(%v) shares its memory: %v", l, all)
		}
		if again := key.Sort(given); !slices.Equal(again, want) {
			t.Errorf("Sort(%v) again: %v", l, again)
		}
	}
}

func TestSearch(t *testing.T) {
	few := fewKeys()
	for _, l := range lists() {
		given, all := apart(key.Sort(l))
		before := slices.Clone(all)
		looked := few
		if len(given) > 40 {
			looked = listOf(rand.New(rand.NewSource(2)), few, 30, 30)
		}
		for _, k := range looked {
			want := 0
			for want < len(given) && orderOf(given[want], k) < 0 {
				want++
			}
			if at, has, e := key.Search(given, k); at != want || has != slices.Contains(given, k) || e != api.OK {
				t.Fatalf("Search(%v, %v): %d %t %d", given, k, at, has, e)
			}
		}
		if !slices.Equal(all, before) {
			t.Fatalf("Search changed %v", given)
		}
	}
}

func TestSearchNoIncreasingList(t *testing.T) {
	sorted := key.Sort(fewKeys())
	for size := 2; size < 20; size++ {
		for at := range size - 1 {
			same := slices.Clone(sorted[:size])
			same[at+1] = same[at]
			swapped := slices.Clone(sorted[:size])
			swapped[at], swapped[at+1] = swapped[at+1], swapped[at]
			for _, l := range [][]api.Key{same, swapped} {
				for _, k := range slices.Concat(sorted[:size+1], []api.Key{{Time: most}}) {
					if at, has, e := key.Search(l, k); at != 0 || has || e != key.ErrOrder {
						t.Fatalf("Search(%v, %v): %d %t %d", l, k, at, has, e)
					}
				}
			}
		}
	}
	for _, l := range [][]api.Key{{{}, {}}, {{Time: 2}, {Time: 1}}, {{Source: 2}, {Source: 1}}, {{Seq: 2}, {Seq: 1}}, {{Time: 1, Source: 2}, {Time: 1, Source: 1, Seq: 9}}, {{Time: 1}, {Time: 3}, {Time: 2}}, {{Time: most}, {Time: least}}, {{Time: 1}, {Time: 2}, {Time: 2}}} {
		if at, has, e := key.Search(l, l[0]); at != 0 || has || e != key.ErrOrder {
			t.Errorf("Search(%v, %v): %d %t %d", l, l[0], at, has, e)
		}
	}
}

// P7.6

func TestTheOrderIsThatOfTheBytes(t *testing.T) {
	l := keysOf([]int{0, 1, 255, 256, 65535, 65536, lastTime - 1, lastTime}, []int{0, 1, 9, 10, 16}, []int{0, 1, 255, 256, 1 << 31, lastSeq})
	for _, a := range l {
		first, e := key.Bytes(a)
		if e != api.OK {
			t.Fatal(a, e)
		}
		for _, b := range l {
			second, _ := key.Bytes(b)
			if c, _ := key.Compare(a, b); c != bytes.Compare(first, second) {
				t.Fatalf("Compare(%v, %v): %d", a, b, c)
			}
		}
	}
}

func TestWhatIsWrittenIsReadBack(t *testing.T) {
	r := rand.New(rand.NewSource(3))
	l := rightKeys()
	for range 5000 {
		l = append(l, api.Key{Time: r.Intn(lastTime+1) >> r.Intn(49), Source: r.Intn(17), Seq: r.Intn(lastSeq+1) >> r.Intn(33)})
	}
	for _, k := range l {
		b, e := key.Bytes(k)
		if back, again := key.Read(b); back != k || e != api.OK || again != api.OK || len(b) != key.Size {
			t.Fatalf("%v: %v, %v %d %d", k, b, back, e, again)
		}
		s, e := key.Text(k)
		if back, again := key.Parse(s); back != k || e != api.OK || again != api.OK {
			t.Fatalf("%v: %q, %v %d %d", k, s, back, e, again)
		}
	}
}

func TestNextAndBackAreInverse(t *testing.T) {
	for _, k := range rightKeys() {
		if n, e := key.Next(k); e == api.OK {
			if b, e := key.Back(n); b != k || e != api.OK || orderOf(k, n) != -1 {
				t.Fatalf("%v, and next %v, and back %v %d", k, n, b, e)
			}
		} else if k.Time != lastTime {
			t.Fatalf("Next(%v): %d", k, e)
		}
		if b, e := key.Back(k); e == api.OK {
			if n, e := key.Next(b); n != k || e != api.OK || orderOf(b, k) != -1 {
				t.Fatalf("%v, and back %v, and next %v %d", k, b, n, e)
			}
		} else if k.Time != 0 {
			t.Fatalf("Back(%v): %d", k, e)
		}
	}
}

func TestOrderMakesWhatSortMakes(t *testing.T) {
	r := rand.New(rand.NewSource(4))
	few := fewKeys()
	for range 200 {
		l := make([]api.Key, r.Intn(100)) // different ones
		for i, at := range r.Perm(len(few))[:len(l)] {
			l[i] = few[at]
		}
		var made []api.Key
		for _, at := range key.Order(l) {
			made = append(made, l[at])
		}
		if s := key.Sort(l); !slices.Equal(made, s) {
			t.Fatalf("%v: %v by Order, %v by Sort", l, made, s)
		}
		for i, k := range made {
			if at, has, e := key.Search(made, k); at != i || !has || e != api.OK {
				t.Fatalf("Search(%v, %v): %d %t %d", made, k, at, has, e)
			}
		}
	}
}
