package field_test

import (
	"bytes"
	"math"
	"slices"
	"testing"

	"fermata/api"
	"fermata/field"
	"fermata/num"
)

// of returns a field.
func of(tag int, b ...byte) field.Field { return field.Field{Tag: tag, Bytes: b} }

// filled returns a field with so many bytes.
func filled(tag, size int) field.Field {
	return of(tag, bytes.Repeat([]byte{byte(tag)}, size)...)
}

// counted returns so many fields of one size, with tags from 1 on.
func counted(count, size int) []field.Field {
	var l []field.Field
	for i := range count {
		l = append(l, filled(1+i, size))
	}
	return l
}

// sameField compares two fields.
func sameField(a, b field.Field) bool { return a.Tag == b.Tag && bytes.Equal(a.Bytes, b.Bytes) }

// same compares fields.
func same(a, b []field.Field) bool { return slices.EqualFunc(a, b, sameField) }

// cloned returns fields that share no memory.
func cloned(l []field.Field) []field.Field {
	var c []field.Field
	for _, f := range l {
		c = append(c, of(f.Tag, slices.Clone(f.Bytes)...))
	}
	return c
}

// written are right fields with their forms.
var written = []struct {
	l    []field.Field
	form []byte
}{
	{nil, nil},
	{[]field.Field{}, []byte{}},
	{[]field.Field{of(1)}, []byte{1, 0}},
	{[]field.Field{of(200)}, []byte{200, 0}},
	{[]field.Field{of(1, 7, 8), of(3)}, []byte{1, 2, 7, 8, 3, 0}},
	{[]field.Field{of(1), of(2), of(3)}, []byte{1, 0, 2, 0, 3, 0}},
	{[]field.Field{of(1, 0), of(200, 255, 255, 255)}, []byte{1, 1, 0, 200, 3, 255, 255, 255}},
	{[]field.Field{of(5, 1, 0, 2, 0)}, []byte{5, 4, 1, 0, 2, 0}},
	{[]field.Field{filled(9, 246), of(10)}, slices.Concat([]byte{9, 246}, filled(9, 246).Bytes, []byte{10, 0})},
	{[]field.Field{filled(9, 247), of(10)}, slices.Concat([]byte{9, 247, 247}, filled(9, 247).Bytes, []byte{10, 0})},
	{[]field.Field{filled(9, 255), of(10)}, slices.Concat([]byte{9, 247, 255}, filled(9, 255).Bytes, []byte{10, 0})},
	{[]field.Field{filled(9, 256), of(10)}, slices.Concat([]byte{9, 248, 1, 0}, filled(9, 256).Bytes, []byte{10, 0})},
	{[]field.Field{of(8), filled(9, 16384), of(10)}, slices.Concat([]byte{8, 0, 9, 248, 64, 0}, filled(9, 16384).Bytes, []byte{10, 0})},
	{[]field.Field{filled(8, 8192), filled(9, 8192)}, slices.Concat([]byte{8, 248, 32, 0}, filled(8, 8192).Bytes, []byte{9, 248, 32, 0}, filled(9, 8192).Bytes)},
	{counted(64, 0), countedForm(64)},
}

// countedForm is the form of so many fields without bytes.
func countedForm(count int) []byte {
	var b []byte
	for i := range count {
		b = append(b, byte(1+i), 0)
	}
	return b
}

// wrong are fields that are not right.
var wrong = [][]field.Field{
	{of(0)}, {of(-1)}, {of(201)}, {of(256)}, {of(257)}, {of(math.MinInt)}, {of(math.MaxInt)},
	{of(1), of(0)}, {of(1), of(201)}, {of(200), of(201)}, {of(0), of(1)}, {of(-1), of(1)}, {of(-2), of(-1)},
	{of(2), of(2)}, {of(2), of(1)}, {of(1), of(3), of(2)}, {of(1), of(3), of(3)}, {of(1, 5), of(1, 6)}, {of(200), of(1)},
	{filled(1, 16385)}, {filled(1, 16384), of(2, 0)}, {of(1, 0), filled(2, 16384)}, {filled(1, 8192), filled(2, 8193)},
	{filled(1, 16384), of(2), of(3), of(4, 9)}, {filled(1, 16385), of(2)}, counted(64, 257),
	counted(65, 0), counted(100, 0), counted(65, 1), counted(200, 1),
}

// P2.1

func TestRight(t *testing.T) {
	for _, c := range written {
		if !field.Right(c.l) {
			t.Errorf("fields of the form %.20v are not right", c.form)
		}
	}
	for _, l := range [][]field.Field{
		counted(64, 256), counted(63, 260), append(counted(63, 0), filled(200, 16384)), {filled(1, 16383), of(2, 1)}, {filled(1, 16384), of(2), of(200)}, {of(199), of(200)},
	} {
		if !field.Right(l) {
			t.Errorf("%.100v are not right", l)
		}
	}
	for i, l := range wrong {
		if field.Right(l) {
			t.Errorf("wrong fields %d are right: %.100v", i, l)
		}
	}
	for tag := -300; tag <= 300; tag++ {
		if got := field.Right([]field.Field{of(tag, 1)}); got != (tag >= 1 && tag <= 200) {
			t.Errorf("the tag %d: %v", tag, got)
		}
		if got := field.Right([]field.Field{of(100), of(tag)}); got != (tag > 100 && tag <= 200) {
			t.Errorf("the tag %d behind 100: %v", tag, got)
		}
	}
}

func TestWrite(t *testing.T) {
	for _, c := range written {
		if b, e := field.Write(c.l); !bytes.Equal(b, c.form) || e != api.OK {
			t.Errorf("Write: %.100v, %d, want %.100v", b, e, c.form)
		}
	}
	for i, l := range wrong {
		if b, e := field.Write(l); len(b) != 0 || e != field.ErrFields {
			t.Errorf("Write of the wrong fields %d: %.100v, %d", i, b, e)
		}
	}
}

// P2.2

func TestReadReadsForms(t *testing.T) {
	for _, c := range written {
		if l, at, e := field.Read(c.form); !same(l, c.l) || at != 0 || e != api.OK {
			t.Errorf("Read(%.100v) = %.100v, %d, %d", c.form, l, at, e)
		}
	}
}

func TestReadOfBytesThatAreNoForm(t *testing.T) {
	full, _ := field.Write([]field.Field{filled(9, field.MaxBytes)})
	many := countedForm(64)
	for i, c := range []struct {
		b  []byte
		at int
	}{
		// tags
		{[]byte{0}, 0}, {[]byte{0, 0}, 0}, {[]byte{201, 0}, 0}, {[]byte{255, 0}, 0}, {[]byte{1, 0, 0, 0}, 2}, {[]byte{1, 0, 201, 0}, 2},
		{[]byte{1, 0, 1, 0}, 2}, {[]byte{2, 0, 1, 0}, 2}, {[]byte{2, 1, 9, 1, 0}, 3}, {[]byte{2, 1, 9, 4, 0, 4, 0, 5, 0}, 5}, {[]byte{200, 0, 1, 0}, 2},
		{[]byte{0, 0, 1, 0}, 0}, {[]byte{1, 1, 1, 2, 2, 1, 1, 2, 0}, 7},
		// numbers of bytes
		{[]byte{1}, 0}, {[]byte{1, 0, 2}, 2}, {[]byte{1, 255}, 0}, {[]byte{1, 247}, 0}, {[]byte{1, 247, 5}, 0}, {[]byte{1, 247, 5, 0, 0, 0, 0, 0}, 0},
		{append([]byte{1, 247, 246}, make([]byte, 246)...), 0}, {append([]byte{1, 248, 0, 247}, make([]byte, 247)...), 0}, {[]byte{1, 248, 1}, 0},
		{[]byte{1, 0, 2, 248, 0, 0}, 2}, {[]byte{1, 0, 2, 255, 3, 0}, 2},
		{[]byte{1, 1}, 0}, {[]byte{1, 2, 7}, 0}, {[]byte{1, 2, 7, 8, 3, 1}, 4}, {[]byte{1, 0, 2, 3, 0, 0}, 2}, {append([]byte{1, 247, 250}, make([]byte, 249)...), 0},
		{[]byte{1, 0, 2, 254, 255, 255, 255, 255, 255, 255, 255, 255}, 2}, {[]byte{1, 254, 128, 0, 0, 0, 0, 0, 0, 0, 0}, 0}, {[]byte{1, 254, 127, 255, 255, 255, 255, 255, 255, 255, 0}, 0},
		// more bytes than are left of MaxBytes, though they are there
		{append([]byte{9, 248, 64, 1}, make([]byte, field.MaxBytes+1)...), 0}, {append(slices.Clone(full), 10, 1, 5), len(full)}, {append(slices.Clone(full), 10, 0, 11, 1, 0), len(full) + 2},
		{append([]byte{1, 1, 0}, full...), 3}, {slices.Concat([]byte{8, 0}, []byte{9, 248, 64, 1}, make([]byte, field.MaxBytes+1)), 2},
		// one field too many
		{append(slices.Clone(many), 65, 0), len(many)}, {append(slices.Clone(many), 100, 0, 101, 0), len(many)}, {append(slices.Clone(many), 65), len(many)}, {append(slices.Clone(many), 0), len(many)},
		{countedForm(200), len(many)},
		// the first of several
		{[]byte{0, 0, 201, 0, 1}, 0}, {[]byte{1, 0, 255, 255, 1, 0}, 2}, {[]byte{5, 1, 9, 4, 1, 9, 3}, 3}, {make([]byte, field.MaxBytes+6*field.MaxFields), 0},
	} {
		if l, at, e := field.Read(c.b); len(l) != 0 || at != c.at || e != field.ErrForm {
			t.Errorf("Read %d (%.20v) = %.100v, %d, %d, want ErrForm at %d", i, c.b, l, at, e, c.at)
		}
	}
}

func TestReadOfLongBytes(t *testing.T) {
	full, _ := field.Write(counted(64, 256))
	for _, c := range []struct {
		b []byte
		e api.Errno
	}{
		{make([]byte, 16384+6*64), field.ErrForm}, {make([]byte, 16384+6*64+1), api.ErrLong}, {make([]byte, 1<<20), api.ErrLong},
		{slices.Concat(full, make([]byte, 16768-len(full))), field.ErrForm}, {slices.Concat(full, make([]byte, 16769-len(full))), api.ErrLong},
	} {
		at := 0
		if c.e == field.ErrForm && c.b[0] != 0 {
			at = len(full)
		}
		if l, got, e := field.Read(c.b); len(l) != 0 || got != at || e != c.e {
			t.Errorf("Read of %d bytes: %d, %d, want %d, %d", len(c.b), got, e, at, c.e)
		}
	}
}

func TestReadOfBytesThatEndEarly(t *testing.T) {
	l := []field.Field{of(1, 7, 8), of(3), filled(4, 300), of(200, 1)}
	form, _ := field.Write(l)
	begins := []int{0, 4, 6, 6 + 4 + 300, len(form)}
	for n := range len(form) {
		whole := 0
		for begins[whole+1] <= n {
			whole++
		}
		got, at, e := field.Read(form[:n])
		if n == begins[whole] {
			if !same(got, l[:whole]) || at != 0 || e != api.OK {
				t.Errorf("Read of %d bytes: %v, %d, %d", n, got, at, e)
			}
		} else if len(got) != 0 || at != begins[whole] || e != field.ErrForm {
			t.Errorf("Read of %d bytes: %v, %d, %d, want ErrForm at %d", n, got, at, e, begins[whole])
		}
	}
}

// read is what the document says about reading bytes that are few.
func read(b []byte) ([]field.Field, int, api.Errno) {
	var l []field.Field
	for at := 0; at < len(b); {
		tag := int(b[at])
		count, size, e := num.Read(b, at+1)
		if tag < 1 || tag > 200 || len(l) > 0 && tag <= l[len(l)-1].Tag || e != api.OK || count > uint64(len(b)-at-1-size) {
			return nil, at, field.ErrForm
		}
		behind := at + 1 + size + int(count)
		l = append(l, of(tag, b[at+1+size:behind]...))
		at = behind
	}
	return l, 0, api.OK
}

// few yields all bytes of up to a length, of an alphabet.
func few(alphabet []byte, most int) func(yield func([]byte) bool) {
	return func(yield func([]byte) bool) {
		var from func(b []byte) bool
		from = func(b []byte) bool {
			if !yield(slices.Clone(b)) {
				return false
			}
			for _, c := range alphabet {
				if len(b) < most && !from(append(b, c)) {
					return false
				}
			}
			return true
		}
		from(nil)
	}
}

// telling are the bytes at which something changes.
var telling = []byte{0, 1, 2, 3, 200, 201, 247, 255}

func TestReadOfAllShortBytes(t *testing.T) {
	for b := range few(telling, 6) {
		l, at, e := field.Read(b)
		if wl, wat, we := read(b); !same(l, wl) || at != wat || e != we {
			t.Fatalf("Read(%v) = %v, %d, %d, want %v, %d, %d", b, l, at, e, wl, wat, we)
		}
	}
}

// P2.3

func TestGet(t *testing.T) {
	l := []field.Field{of(2, 20), of(5, 50, 51), of(9)}
	for tag := -1; tag <= 201; tag++ {
		var want []byte
		is := false
		for _, f := range l {
			if f.Tag == tag {
				want, is = f.Bytes, true
			}
		}
		if b, got := field.Get(l, tag); !bytes.Equal(b, want) || got != is {
			t.Errorf("Get(%d) = %v, %v", tag, b, got)
		}
	}
	if b, is := field.Get(nil, 1); len(b) != 0 || is {
		t.Error("Get of no fields:", b, is)
	}
}

func TestGetOfFieldsThatAreNotRight(t *testing.T) {
	l := []field.Field{of(9, 1), of(5, 2), of(9, 3), of(0, 4), of(-7, 5), of(5), of(1000, 6), of(math.MinInt), of(math.MinInt, 7)}
	for _, c := range []struct {
		tag  int
		want []byte
		is   bool
	}{
		{9, []byte{1}, true}, {5, []byte{2}, true}, {0, []byte{4}, true}, {-7, []byte{5}, true}, {1000, []byte{6}, true}, {math.MinInt, nil, true},
		{1, nil, false}, {-1, nil, false}, {math.MaxInt, nil, false},
	} {
		if b, is := field.Get(l, c.tag); !bytes.Equal(b, c.want) || is != c.is {
			t.Errorf("Get(%d) = %v, %v, want %v, %v", c.tag, b, is, c.want, c.is)
		}
	}
}

// set is what the document says about setting a field.
func set(l []field.Field, f field.Field) []field.Field {
	other := slices.DeleteFunc(slices.Clone(l), func(g field.Field) bool { return g.Tag == f.Tag })
	other = append(other, f)
	slices.SortFunc(other, func(a, b field.Field) int { return a.Tag - b.Tag })
	return other
}

func TestSet(t *testing.T) {
	for _, l := range [][]field.Field{nil, {of(1)}, {of(200, 9)}, {of(2, 20), of(5, 50, 51)}, {of(1, 1), of(2, 2), of(3, 3)}, counted(63, 2), {of(1), filled(2, 16000), of(4, 4)}} {
		for tag := 1; tag <= 200; tag++ {
			for _, f := range []field.Field{of(tag), of(tag, 77), of(tag, 7, 8, 9)} {
				if got, e := field.Set(l, f); !same(got, set(l, f)) || e != api.OK {
					t.Fatalf("Set(%.100v, %v) = %.100v, %d", l, f, got, e)
				}
			}
		}
	}
}

func TestSetAtTheLimits(t *testing.T) {
	many, big := counted(64, 0), []field.Field{of(3, 5), filled(9, field.MaxBytes-1)}
	for i, c := range []struct {
		l []field.Field
		f field.Field
		e api.Errno
	}{
		{many, of(64, 1), api.OK}, {many, of(1), api.OK}, {many, of(65), field.ErrFields}, {many, of(200, 1), field.ErrFields}, {many[:63], of(200), api.OK}, {many[1:], of(1), api.OK},
		{many, filled(30, field.MaxBytes), api.OK}, {many, filled(30, field.MaxBytes+1), field.ErrFields},
		{nil, filled(1, field.MaxBytes), api.OK}, {nil, filled(1, field.MaxBytes+1), field.ErrFields},
		{big, of(3), api.OK}, {big, of(3, 6), api.OK}, {big, of(3, 6, 7), field.ErrFields}, {big, of(4), api.OK}, {big, of(4, 0), field.ErrFields}, {big, of(200, 0), field.ErrFields},
		{big, filled(9, field.MaxBytes), field.ErrFields}, {big, of(9), api.OK},
		{nil, of(0), field.ErrFields}, {nil, of(-1), field.ErrFields}, {nil, of(201), field.ErrFields}, {nil, of(math.MinInt), field.ErrFields}, {nil, of(math.MaxInt), field.ErrFields},
		{big[:1], of(0), field.ErrFields}, {big[:1], of(201), field.ErrFields}, {nil, of(1), api.OK}, {nil, of(200), api.OK},
	} {
		var want []field.Field
		if c.e == api.OK {
			want = set(c.l, c.f)
		}
		if got, e := field.Set(c.l, c.f); !same(got, want) || e != c.e {
			t.Errorf("Set %d: %d fields, %d, want %d fields, %d", i, len(got), e, len(want), c.e)
		}
	}
}

func TestSetOfFieldsThatAreNotRight(t *testing.T) {
	for i, l := range wrong {
		for _, f := range []field.Field{of(1), of(2), of(0), of(200), of(201)} {
			if got, e := field.Set(l, f); len(got) != 0 || e != field.ErrFields {
				t.Errorf("Set of %v in the wrong fields %d: %.100v, %d", f, i, got, e)
			}
		}
	}
	// What would be right with the new field was still not right before.
	for _, c := range []struct {
		l []field.Field
		f field.Field
	}{{[]field.Field{filled(1, field.MaxBytes+1)}, of(1)}, {[]field.Field{filled(1, field.MaxBytes), of(2, 1)}, of(2)}, {[]field.Field{of(2), of(2)}, of(2)}, {[]field.Field{of(0)}, of(0)}} {
		if got, e := field.Set(c.l, c.f); len(got) != 0 || e != field.ErrFields {
			t.Errorf("Set makes wrong fields right: %d fields, %d", len(got), e)
		}
	}
}

// P2.4

func TestSuit(t *testing.T) {
	l := []field.Field{of(1, 7, 8), of(3)}
	type wants = []field.Want
	for i, c := range []struct {
		l   []field.Field
		w   wants
		tag int
		e   api.Errno
	}{
		{nil, nil, 0, api.OK}, {[]field.Field{}, wants{}, 0, api.OK}, {nil, wants{{Tag: 9}}, 0, api.OK}, {nil, wants{{Tag: 9, Least: 5, Most: 9}}, 0, api.OK},
		{l, wants{{Tag: 1, Most: 2}, {Tag: 3}}, 0, api.OK}, {l, wants{{Tag: 1, Least: 2, Most: 9}, {Tag: 3, Most: 9}}, 0, api.OK},
		{l, wants{{1, true, 2, 2}, {2, false, 0, 9}, {3, true, 0, 0}, {200, false, 9, 9}}, 0, api.OK},
		{l[:1], wants{{1, true, 2, 2}, {2, false, 0, 9}}, 0, api.OK},

		{l, wants{{1, true, 2, 2}, {2, false, 0, 9}}, 3, field.ErrUnknown}, {l, nil, 1, field.ErrUnknown}, {l, wants{{Tag: 3}}, 1, field.ErrUnknown}, {l, wants{{Tag: 2}}, 1, field.ErrUnknown},
		{l, wants{{Tag: 1, Most: 9}, {Tag: 4}}, 3, field.ErrUnknown}, {l, wants{{Tag: 4}, {Tag: 5}}, 1, field.ErrUnknown}, {[]field.Field{of(1)}, wants{{Tag: 2}}, 1, field.ErrUnknown},

		{l, wants{{1, false, 3, 9}, {3, false, 0, 9}}, 1, field.ErrSize}, {l, wants{{1, false, 0, 1}, {3, false, 0, 9}}, 1, field.ErrSize}, {l, wants{{1, false, 0, 2}, {3, false, 1, 9}}, 3, field.ErrSize},
		{l, wants{{1, false, 0, 0}}, 1, field.ErrSize}, {l, wants{{1, true, 16384, 16384}, {3, true, 0, 0}}, 1, field.ErrSize},
		{[]field.Field{filled(1, 16384)}, wants{{1, true, 0, 16383}}, 1, field.ErrSize}, {[]field.Field{filled(1, 16384)}, wants{{1, true, 16384, 16384}}, 0, api.OK}, {[]field.Field{filled(1, 16383)}, wants{{1, true, 16384, 16384}}, 1, field.ErrSize},

		{nil, wants{{Tag: 9, Must: true}}, 9, field.ErrMissing}, {nil, wants{{1, true, 2, 2}, {2, false, 0, 9}}, 1, field.ErrMissing}, {nil, wants{{Tag: 1}, {Tag: 2, Must: true}, {Tag: 3, Must: true}}, 2, field.ErrMissing},
		{l, wants{{Tag: 1, Most: 9}, {Tag: 2, Must: true}, {Tag: 3}, {Tag: 4, Must: true}}, 2, field.ErrMissing}, {l, wants{{1, true, 0, 9}, {3, true, 0, 9}, {200, true, 0, 0}}, 200, field.ErrMissing},

		// the first field that does not suit, then the first want without a field
		{l, wants{{1, false, 0, 1}}, 1, field.ErrSize}, {[]field.Field{of(1), of(3, 9)}, wants{{Tag: 3}}, 1, field.ErrUnknown}, {[]field.Field{of(1, 9), of(2), of(3)}, wants{{Tag: 1, Most: 1}, {Tag: 3, Least: 1, Most: 1}}, 2, field.ErrUnknown},
		{[]field.Field{of(1, 9), of(2), of(3)}, wants{{Tag: 1, Most: 1}, {Tag: 2, Least: 1, Most: 1}}, 2, field.ErrSize},
		{l, wants{{Tag: 1, Most: 2}, {Tag: 2, Must: true}, {Tag: 3, Least: 1, Most: 1}}, 3, field.ErrSize}, {l, wants{{Tag: 1, Most: 2}, {Tag: 2, Must: true}}, 3, field.ErrUnknown},
		{[]field.Field{of(200)}, wants{{Tag: 1, Must: true}}, 200, field.ErrUnknown},
	} {
		if tag, e := field.Suit(c.l, c.w); tag != c.tag || e != c.e {
			t.Errorf("Suit %d: %d, %d, want %d, %d", i, tag, e, c.tag, c.e)
		}
	}
}

// countedWants are so many wants, with tags from 1 on.
func countedWants(count int) []field.Want {
	var w []field.Want
	for i := range count {
		w = append(w, field.Want{Tag: 1 + i, Most: 9})
	}
	return w
}

// wrongWants are wants that are not right.
var wrongWants = [][]field.Want{
	{{Tag: 0}}, {{}}, {{Tag: -1}}, {{Tag: 201}}, {{Tag: math.MinInt}}, {{Tag: math.MaxInt}}, {{Tag: 1}, {Tag: 201}}, {{Tag: 0}, {Tag: 1}},
	{{Tag: 2}, {Tag: 1}}, {{Tag: 2}, {Tag: 2}}, {{Tag: 1, Must: true}, {Tag: 1}}, {{Tag: 1}, {Tag: 3}, {Tag: 2}},
	{{Tag: 1, Least: -1}}, {{Tag: 1, Least: -1, Most: 5}}, {{Tag: 1, Least: math.MinInt, Most: 5}}, {{Tag: 1, Least: -5, Most: -1}}, {{Tag: 1, Most: -1}},
	{{Tag: 1, Least: 2, Most: 1}}, {{Tag: 1, Least: 1}}, {{Tag: 1, Least: math.MaxInt, Most: 5}}, {{Tag: 1, Most: 16385}}, {{Tag: 1, Least: 16385, Most: 16385}}, {{Tag: 1, Most: math.MaxInt}},
	{{Tag: 1}, {Tag: 2, Least: 1}}, {{Tag: 1}, {Tag: 2, Most: 16385}}, countedWants(65), countedWants(200), countedWants(201),
}

func TestSuitOfWantsThatAreNotRight(t *testing.T) {
	for i, w := range wrongWants {
		for _, l := range [][]field.Field{nil, {of(1)}, {of(1, 1, 1, 1), of(2)}, {of(200)}} {
			if tag, e := field.Suit(l, w); tag != 0 || e != field.ErrWants {
				t.Errorf("Suit with the wrong wants %d: %d, %d", i, tag, e)
			}
		}
	}
	for _, w := range [][]field.Want{
		countedWants(64), {{Tag: 1}, {Tag: 200}}, {{1, false, 16384, 16384}, {2, false, 0, 16384}, {3, false, 16384, 16384}}, {{1, false, 0, 0}, {200, false, 0, 16384}},
	} {
		if tag, e := field.Suit(nil, w); tag != 0 || e != api.OK {
			t.Errorf("Suit with the right wants %v: %d, %d", w, tag, e)
		}
	}
}

func TestSuitOfFieldsThatAreNotRight(t *testing.T) {
	for i, l := range wrong {
		for _, w := range append(slices.Clone(wrongWants), nil, []field.Want{{Tag: 1, Most: 9}, {Tag: 2, Most: 9}}, []field.Want{{Tag: 9, Must: true}}) {
			if tag, e := field.Suit(l, w); tag != 0 || e != field.ErrFields {
				t.Errorf("Suit of the wrong fields %d: %d, %d", i, tag, e)
			}
		}
	}
}

// P2.5

func TestNumberAndValue(t *testing.T) {
	for _, tag := range []int{5, 1, 200, 0, -1, 201, math.MinInt, math.MaxInt} {
		for _, c := range []struct {
			x    uint64
			form []byte
		}{
			{0, []byte{0}}, {246, []byte{246}}, {247, []byte{247, 247}}, {255, []byte{247, 255}}, {300, []byte{248, 1, 44}}, {1 << 48, []byte{253, 1, 0, 0, 0, 0, 0, 0}},
			{math.MaxUint64, []byte{254, 255, 255, 255, 255, 255, 255, 255, 255}},
		} {
			f := field.Number(tag, c.x)
			if !sameField(f, of(tag, c.form...)) {
				t.Errorf("Number(%d, %d) = %v", tag, c.x, f)
			}
			if x, e := field.Value(of(tag, c.form...)); x != c.x || e != api.OK {
				t.Errorf("Value of %v: %d, %d", c.form, x, e)
			}
		}
	}
}

func TestValueOfBytesThatAreNoNumber(t *testing.T) {
	for _, c := range []struct {
		b []byte
		e api.Errno
	}{
		{nil, num.ErrShort}, {[]byte{}, num.ErrShort}, {[]byte{247}, num.ErrShort}, {[]byte{248, 1}, num.ErrShort}, {[]byte{254, 1, 2, 3, 4, 5, 6, 7}, num.ErrShort},
		{[]byte{255}, num.ErrForm}, {[]byte{247, 5}, num.ErrForm}, {[]byte{248, 0, 255}, num.ErrForm}, {[]byte{5, 5}, num.ErrForm}, {[]byte{0, 0}, num.ErrForm}, {[]byte{248, 1, 44, 0}, num.ErrForm},
	} {
		for _, tag := range []int{0, 5, 201} {
			if x, e := field.Value(of(tag, c.b...)); x != 0 || e != c.e {
				t.Errorf("Value of %v: %d, %d, want error %d", c.b, x, e, c.e)
			}
		}
	}
}

// P2.6

// records are right fields with up to three of the tags 1, 2, 3, 200, each with up to two bytes.
func records() [][]field.Field {
	l := [][]field.Field{nil}
	for _, tag := range []int{1, 2, 3, 200} {
		for _, before := range slices.Clone(l) {
			for _, b := range [][]byte{{}, {0}, {1}, {1, 0}, {255, 2}} {
				if len(before) < 3 {
					l = append(l, append(slices.Clone(before), of(tag, b...)))
				}
			}
		}
	}
	return l
}

func TestWhatIsWrittenIsReadBack(t *testing.T) {
	forms := map[string]bool{}
	for _, l := range records() {
		b, e := field.Write(l)
		if e != api.OK || forms[string(b)] {
			t.Fatalf("Write(%v) = %v, %d, or another record has this form", l, b, e)
		}
		forms[string(b)] = true
		if got, at, e := field.Read(b); !same(got, l) || at != 0 || e != api.OK {
			t.Fatalf("%v is read back as %v, %d, %d", l, got, at, e)
		}
	}
}

func TestWhatIsReadIsWrittenAsItWas(t *testing.T) {
	for b := range few(telling, 6) {
		l, _, e := field.Read(b)
		if e != api.OK {
			continue
		}
		if got, e := field.Write(l); !bytes.Equal(got, b) || e != api.OK || !field.Right(l) {
			t.Fatalf("%v is read, and written as %v, %d", b, got, e)
		}
	}
}

func TestMoreThatMustBeLetsNoMoreFieldsSuit(t *testing.T) {
	for _, l := range records() {
		for musts := range 16 {
			suits := func(musts int) bool {
				var w []field.Want
				for i, tag := range []int{1, 2, 3, 200} {
					w = append(w, field.Want{Tag: tag, Must: musts>>i&1 == 1, Least: i / 3, Most: 2 - i/2})
				}
				_, e := field.Suit(l, w)
				return e == api.OK
			}
			for more := range 4 {
				if suits(musts|1<<more) && !suits(musts) {
					t.Fatalf("%v suit only if more must be", l)
				}
			}
		}
	}
}

func TestWhatIsSetIsGotAndAllElseStays(t *testing.T) {
	for _, l := range records() {
		for _, f := range []field.Field{of(1), of(2, 9, 9), of(3, 1), of(100, 5), of(200)} {
			got, e := field.Set(l, f)
			if b, is := field.Get(got, f.Tag); !bytes.Equal(b, f.Bytes) || !is || e != api.OK || !field.Right(got) {
				t.Fatalf("Set(%v, %v) = %v, %d", l, f, got, e)
			}
			for tag := range 202 {
				was, had := field.Get(l, tag)
				is, has := field.Get(got, tag)
				if tag != f.Tag && (!bytes.Equal(was, is) || had != has) {
					t.Fatalf("Set(%v, %v) = %v", l, f, got)
				}
			}
		}
	}
}

// Arguments stay as they are, and results are new.

// roomy returns fields with bytes behind each of their slices.
func roomy(l []field.Field) []field.Field {
	c := append(cloned(l), of(99, 99))
	for i, f := range c {
		c[i].Bytes = append(slices.Clone(f.Bytes), 77, 78, 79)[:len(f.Bytes)]
	}
	return c[:len(l)]
}

// behind returns what is in the slices of fields, and behind each of them.
func behind(l []field.Field) []field.Field {
	all := cloned(l[:len(l)+1])
	for i, f := range l {
		all[i].Bytes = slices.Clone(f.Bytes[:len(f.Bytes)+3])
	}
	return all
}

func TestArgumentsAreKept(t *testing.T) {
	w := []field.Want{{Tag: 1, Must: true, Most: 2}, {Tag: 2}, {Tag: 3}}
	for _, l := range append(records(), []field.Field{of(2), of(1, 5)}) {
		c, f := roomy(l), roomy([]field.Field{of(2, 5)})
		before := behind(c)
		field.Right(c)
		field.Write(c)
		field.Get(c, 1)
		field.Set(c, f[0])
		field.Set(c, of(150))
		field.Suit(c, w)
		if !same(behind(c), before) || !same(behind(f), []field.Field{of(2, 5, 77, 78, 79), of(99, 99)}) {
			t.Fatalf("%v was modified: %v, %v", l, behind(c), behind(f))
		}
		b, _ := field.Write(l)
		room := append(slices.Clone(b), 77, 78, 79)
		field.Read(room[:len(b)])
		field.Value(of(1, room[:len(b)]...))
		if !bytes.Equal(room, append(b, 77, 78, 79)) {
			t.Fatalf("%v was modified: %v", b, room)
		}
	}
	if !slices.Equal(w, []field.Want{{Tag: 1, Must: true, Most: 2}, {Tag: 2}, {Tag: 3}}) {
		t.Error("Suit modified wants:", w)
	}
}

// spoil overwrites the bytes of a field, and what there is room for behind them.
func spoil(f field.Field) {
	for i := range f.Bytes[:cap(f.Bytes)] {
		f.Bytes[:cap(f.Bytes)][i] = 88
	}
}

func TestResultsShareNoMemory(t *testing.T) {
	l := []field.Field{of(1, 7, 8), of(3), of(5, 9), filled(7, 300)}
	kept := cloned(l)
	form, _ := field.Write(l)
	keptForm := slices.Clone(form)
	f := of(4, 44)
	read, _, _ := field.Read(form)
	set, _ := field.Set(l, f)
	for _, got := range [][]field.Field{read, set} {
		for i := range got {
			want := cloned(got)
			spoil(got[i])
			got[i], want[i] = field.Field{}, field.Field{}
			if !same(got, want) {
				t.Errorf("the field %d shares memory with another one: %v", i, got)
			}
		}
	}
	bytesOf, _ := field.Get(l, 1)
	spoil(of(0, bytesOf...))
	clear(bytesOf)
	again, _ := field.Write(l)
	clear(again)
	if !same(l, kept) || !bytes.Equal(form, keptForm) || f.Bytes[0] != 44 {
		t.Error("a result shares memory with an argument:", l, form, f)
	}
	spoil(field.Number(1, 300))
	if f := field.Number(1, 300); !sameField(f, of(1, 248, 1, 44)) {
		t.Error("Number gives out what it gave out before:", f)
	}
}
