package frame_test

import (
	"bytes"
	"iter"
	"slices"
	"testing"

	"fermata/api"
	"fermata/frame"
)

// head is what the document says the form of the size of a body is.
func head(size int) []byte {
	switch {
	case size <= 246:
		return []byte{byte(size)}
	case size <= 255:
		return []byte{247, byte(size)}
	default:
		return []byte{248, byte(size / 256), byte(size % 256)}
	}
}

// filled returns a body with so many bytes.
func filled(size int) []byte {
	b := make([]byte, size)
	for i := range b {
		b[i] = byte(i*i/3 + i)
	}
	return b
}

// whole is the frame of a body.
func whole(body []byte) []byte { return slices.Concat(head(len(body)), body) }

// written are bodies with the first bytes of their frames, written out by hand.
var written = []struct {
	body []byte
	head []byte
}{
	{nil, []byte{0}},
	{[]byte{}, []byte{0}},
	{[]byte{0}, []byte{1}},
	{[]byte{7, 8}, []byte{2}},
	{[]byte{255, 248, 0}, []byte{3}},
	{filled(245), []byte{245}},
	{filled(246), []byte{246}},
	{filled(247), []byte{247, 247}},
	{filled(248), []byte{247, 248}},
	{filled(255), []byte{247, 255}},
	{filled(256), []byte{248, 1, 0}},
	{filled(257), []byte{248, 1, 1}},
	{filled(511), []byte{248, 1, 255}},
	{filled(512), []byte{248, 2, 0}},
	{filled(0x1234), []byte{248, 0x12, 0x34}},
	{filled(16127), []byte{248, 62, 255}},
	{filled(16128), []byte{248, 63, 0}},
	{filled(16383), []byte{248, 63, 255}},
	{filled(16384), []byte{248, 64, 0}},
}

// wrong are bytes that no frame begins with, and that begin with none; all that follows them is wrong, too.
var wrong = [][]byte{
	{249}, {250}, {251}, {252}, {253}, {254}, {255}, {249, 1}, {249, 0}, {249, 0, 0, 5}, {249, 1, 0, 0}, {254, 1, 2, 3, 4, 5, 6, 7, 8}, {255, 0}, {255, 255, 255},
	{247, 0}, {247, 1}, {247, 9}, {247, 245}, {247, 246},
	{248, 0}, {248, 0, 0}, {248, 0, 5}, {248, 0, 255}, {248, 65}, {248, 65, 0}, {248, 128}, {248, 255}, {248, 255, 255},
	{248, 64, 1}, {248, 64, 2}, {248, 64, 255},
}

// short are beginnings of frames, with what they need.
var short = []struct {
	b    []byte
	need int
}{
	{nil, 1}, {[]byte{}, 1},
	{[]byte{1}, 1}, {[]byte{2}, 2}, {[]byte{2, 7}, 1}, {[]byte{3}, 3}, {[]byte{245}, 245}, {[]byte{246}, 246}, {[]byte{246, 249}, 245}, {whole(filled(246))[:246], 1},
	{[]byte{247}, 248}, {[]byte{247, 247}, 247}, {[]byte{247, 248}, 248}, {[]byte{247, 250}, 250}, {[]byte{247, 255}, 255}, {[]byte{247, 247, 9}, 246}, {whole(filled(247))[:248], 1}, {whole(filled(255))[:256], 1},
	{[]byte{248}, 258}, {[]byte{248, 1}, 257}, {[]byte{248, 2}, 513}, {[]byte{248, 63}, 16129}, {[]byte{248, 64}, 16385},
	{[]byte{248, 1, 0}, 256}, {[]byte{248, 1, 4, 7}, 259}, {[]byte{248, 1, 255}, 511}, {[]byte{248, 64, 0}, 16384}, {[]byte{248, 64, 0, 255}, 16383}, {whole(filled(256))[:258], 1}, {whole(filled(16384))[:16386], 1},
}

// firsts are what the first bytes of all frames tell, up to the end of their heads.
type firsts struct {
	least map[string]int // how many bytes the frames that begin so have at least
	heads map[string]int // how many bytes the body has, if the head is whole
}

// allFirsts returns those of the frames of all sizes.
func allFirsts() firsts {
	f := firsts{map[string]int{}, map[string]int{}}
	for size := range 16385 {
		h := head(size)
		f.heads[string(h)] = size
		for k := range len(h) + 1 {
			if _, is := f.least[string(h[:k])]; !is { // sizes come from the least one on
				f.least[string(h[:k])] = len(h) + size
			}
		}
	}
	return f
}

// read is what the document says about the frame at the beginning of bytes: its body, and where it ends at least.
func (f firsts) read(b []byte) ([]byte, int, api.Errno) {
	for k := range min(len(b), 3) + 1 {
		size, is := f.heads[string(b[:k])]
		switch {
		case is && len(b) >= k+size:
			return b[k : k+size], k + size, api.OK
		case is:
			return nil, k + size, frame.ErrShort
		}
	}
	if to, is := f.least[string(b)]; is {
		return nil, to, frame.ErrShort
	}
	return nil, 0, frame.ErrWrong
}

// split is what the document says about bytes as frames: the bodies, and the rest.
func (f firsts) split(b []byte) ([][]byte, []byte, api.Errno) {
	var bodies [][]byte
	for {
		body, size, e := f.read(b)
		if e == frame.ErrShort && len(b) == 0 {
			return bodies, b, api.OK
		}
		if e != api.OK {
			return bodies, b, e
		}
		bodies = append(bodies, body)
		b = b[size:]
	}
}

// same compares bodies.
func same(a, b [][]byte) bool { return slices.EqualFunc(a, b, bytes.Equal) }

// few yields all bytes of up to a length, of an alphabet.
func few(alphabet []byte, most int) iter.Seq[[]byte] {
	return func(yield func([]byte) bool) {
		var below func(b []byte) bool
		below = func(b []byte) bool {
			if !yield(slices.Clone(b)) {
				return false
			}
			if len(b) == most {
				return true
			}
			for _, c := range alphabet {
				if !below(append(b, c)) {
					return false
				}
			}
			return true
		}
		below(nil)
	}
}

// telling are the bytes at which something changes.
var telling = []byte{0, 1, 2, 64, 65, 246, 247, 248, 249, 255}

// heads yields all bytes of up to two, and all of three that begin with a byte that tells of digits.
func heads() iter.Seq[[]byte] {
	return func(yield func([]byte) bool) {
		if !yield(nil) {
			return
		}
		for x := range 1 << 16 {
			a, b := byte(x>>8), byte(x)
			if b == 0 && !yield([]byte{a}) || !yield([]byte{a, b}) {
				return
			}
			for _, first := range []byte{246, 247, 248, 249, 255} {
				if !yield([]byte{first, a, b}) {
					return
				}
			}
		}
	}
}

// P3.1

func TestWrite(t *testing.T) {
	for _, c := range written {
		want := slices.Concat(c.head, c.body)
		if got, e := frame.Write(c.body); !bytes.Equal(got, want) || e != api.OK {
			t.Errorf("Write of %d bytes: %.10v, %d", len(c.body), got, e)
		}
	}
	for size := range 16385 {
		body := filled(size)
		if got, e := frame.Write(body); !bytes.Equal(got, whole(body)) || e != api.OK {
			t.Fatalf("Write of %d bytes: %.10v, %d", size, got, e)
		}
	}
}

func TestWriteOfBodiesThatAreTooLong(t *testing.T) {
	for _, size := range []int{16385, 16386, 16640, 65535, 65536, 1 << 20} {
		if got, e := frame.Write(make([]byte, size)); len(got) != 0 || e != api.ErrLong {
			t.Errorf("Write of %d bytes: %d bytes, %d", size, len(got), e)
		}
	}
}

func TestReadReadsFrames(t *testing.T) {
	for _, c := range written {
		for _, behind := range [][]byte{nil, {0}, {9}, {255}, {247, 0}, filled(300)} {
			body, size, e := frame.Read(slices.Concat(c.head, c.body, behind))
			if !bytes.Equal(body, c.body) || size != len(c.head)+len(c.body) || e != api.OK {
				t.Errorf("Read of a body of %d bytes and %.10v: %d bytes, %d, %d", len(c.body), behind, len(body), size, e)
			}
		}
	}
}

func TestReadOfBeginningsAndOfWrongBytes(t *testing.T) {
	for _, c := range short {
		if body, size, e := frame.Read(c.b); len(body) != 0 || size != 0 || e != frame.ErrShort {
			t.Errorf("Read(%.10v) = %.10v, %d, %d", c.b, body, size, e)
		}
	}
	for _, b := range wrong {
		for _, behind := range [][]byte{nil, {0}, {1}, {255}, {0, 0, 0}, filled(16400)} {
			if body, size, e := frame.Read(slices.Concat(b, behind)); len(body) != 0 || size != 0 || e != frame.ErrWrong {
				t.Errorf("Read of %v and %.10v: %.10v, %d, %d", b, behind, body, size, e)
			}
		}
	}
	for _, c := range written {
		all := slices.Concat(c.head, c.body)
		for k := range all {
			if body, size, e := frame.Read(all[:k]); len(body) != 0 || size != 0 || e != frame.ErrShort {
				t.Fatalf("Read of %d bytes of %d: %.10v, %d, %d", k, len(all), body, size, e)
			}
		}
	}
}

func TestNeed(t *testing.T) {
	for _, c := range short {
		if n, e := frame.Need(c.b); n != c.need || e != api.OK {
			t.Errorf("Need(%.10v) = %d, %d, want %d", c.b, n, e, c.need)
		}
	}
	for _, b := range wrong {
		for _, behind := range [][]byte{nil, {0}, {255}, filled(16400)} {
			if n, e := frame.Need(slices.Concat(b, behind)); n != 0 || e != frame.ErrWrong {
				t.Errorf("Need of %v and %.10v: %d, %d", b, behind, n, e)
			}
		}
	}
	for _, c := range written {
		for _, behind := range [][]byte{nil, {0}, {255}, {248}, filled(300)} {
			if n, e := frame.Need(slices.Concat(c.head, c.body, behind)); n != 0 || e != api.OK {
				t.Errorf("Need of a frame of %d bytes and %.10v: %d, %d", len(c.body), behind, n, e)
			}
		}
	}
}

func TestReadAndNeedOfAllFirstBytes(t *testing.T) {
	f := allFirsts()
	for b := range heads() {
		wantBody, to, want := f.read(b)
		wantSize, wantNeed, wantNeedError := 0, 0, api.OK
		switch want {
		case api.OK:
			wantSize = to
		case frame.ErrShort:
			wantNeed = to - len(b)
		case frame.ErrWrong:
			wantNeedError = frame.ErrWrong
		}
		if body, size, e := frame.Read(b); !bytes.Equal(body, wantBody) || size != wantSize || e != want {
			t.Fatalf("Read(%v) = %v, %d, %d, want %v, %d, %d", b, body, size, e, wantBody, wantSize, want)
		}
		if need, e := frame.Need(b); need != wantNeed || e != wantNeedError {
			t.Fatalf("Need(%v) = %d, %d, want %d, %d", b, need, e, wantNeed, wantNeedError)
		}
	}
}

// P3.2

func TestJoin(t *testing.T) {
	for i, c := range []struct {
		bodies [][]byte
		b      []byte
	}{
		{nil, nil}, {[][]byte{}, nil}, {[][]byte{nil}, []byte{0}}, {[][]byte{{}, nil, {}}, []byte{0, 0, 0}},
		{[][]byte{{7, 8}}, []byte{2, 7, 8}}, {[][]byte{{5}, nil, {6, 9}}, []byte{1, 5, 0, 2, 6, 9}},
		{[][]byte{filled(247), {1}}, slices.Concat([]byte{247, 247}, filled(247), []byte{1, 1})},
		{[][]byte{filled(256), filled(16384), filled(3)}, slices.Concat([]byte{248, 1, 0}, filled(256), []byte{248, 64, 0}, filled(16384), []byte{3}, filled(3))},
	} {
		if b, at, e := frame.Join(c.bodies); !bytes.Equal(b, c.b) || at != -1 || e != api.OK {
			t.Errorf("Join %d: %.20v, %d, %d", i, b, at, e)
		}
	}
}

func TestJoinOfBodiesThatAreTooLong(t *testing.T) {
	long, full := make([]byte, 16385), make([]byte, 16384)
	for _, c := range []struct {
		bodies [][]byte
		at     int
	}{
		{[][]byte{long}, 0}, {[][]byte{long, long}, 0}, {[][]byte{nil, long}, 1}, {[][]byte{full, {1}, long, nil}, 2}, {[][]byte{{1}, long, {2}, long}, 1}, {[][]byte{full, full, full, make([]byte, 1<<16)}, 3},
	} {
		if b, at, e := frame.Join(c.bodies); len(b) != 0 || at != c.at || e != api.ErrLong {
			t.Errorf("Join with a body too long at %d: %d bytes, %d, %d", c.at, len(b), at, e)
		}
	}
}

func TestSplit(t *testing.T) {
	for _, c := range []struct {
		b      []byte
		bodies [][]byte
		size   int
		e      api.Errno
	}{
		{nil, nil, 0, api.OK}, {[]byte{}, nil, 0, api.OK}, {[]byte{0}, [][]byte{nil}, 1, api.OK}, {[]byte{0, 0}, [][]byte{nil, nil}, 2, api.OK},
		{[]byte{2, 7, 8}, [][]byte{{7, 8}}, 3, api.OK}, {[]byte{1, 5, 0, 2, 6, 9}, [][]byte{{5}, nil, {6, 9}}, 6, api.OK}, {[]byte{1, 249}, [][]byte{{249}}, 2, api.OK},
		{[]byte{1}, nil, 0, frame.ErrShort}, {[]byte{247}, nil, 0, frame.ErrShort}, {[]byte{0, 1, 5, 2, 6}, [][]byte{nil, {5}}, 3, frame.ErrShort}, {[]byte{0, 248, 64}, [][]byte{nil}, 1, frame.ErrShort}, {[]byte{0, 248, 64, 0, 1}, [][]byte{nil}, 1, frame.ErrShort},
		{[]byte{249}, nil, 0, frame.ErrWrong}, {[]byte{1, 5, 255, 0}, [][]byte{{5}}, 2, frame.ErrWrong}, {[]byte{2, 6, 9, 255}, [][]byte{{6, 9}}, 3, frame.ErrWrong}, {[]byte{0, 0, 247, 0, 0}, [][]byte{nil, nil}, 2, frame.ErrWrong}, {[]byte{0, 248, 64, 1, 1}, [][]byte{nil}, 1, frame.ErrWrong},
		{slices.Concat(whole(filled(16384)), whole(filled(300)), []byte{1}), [][]byte{filled(16384), filled(300)}, 16387 + 303, frame.ErrShort},
	} {
		if bodies, size, e := frame.Split(c.b); !same(bodies, c.bodies) || size != c.size || e != c.e {
			t.Errorf("Split(%.20v) = %.20v, %d, %d", c.b, bodies, size, e)
		}
	}
}

func TestSplitOfAllBytes(t *testing.T) {
	f := allFirsts()
	for b := range few(telling, 5) {
		bodies, rest, e := f.split(b)
		if got, size, gotE := frame.Split(b); !same(got, bodies) || size != len(b)-len(rest) || gotE != e {
			t.Fatalf("Split(%v) = %v, %d, %d, want %v, %d, %d", b, got, size, gotE, bodies, len(b)-len(rest), e)
		}
	}
}

// P3.3

// looks holds what a stream tells against what it should.
func looks(t *testing.T, s *frame.Stream, held, need, frames int, dead bool) {
	t.Helper()
	if s.Held() != held || s.Need() != need || s.Frames() != frames || s.Dead() != dead {
		t.Fatalf("a stream holds %d, needs %d, had %d, is dead: %v; want %d, %d, %d, %v", s.Held(), s.Need(), s.Frames(), s.Dead(), held, need, frames, dead)
	}
}

// feeds gives a stream bytes, and holds the bodies that it returns against what they should be.
func feeds(t *testing.T, s *frame.Stream, b []byte, bodies [][]byte, want api.Errno) {
	t.Helper()
	if got, e := s.Feed(b); !same(got, bodies) || e != want {
		t.Fatalf("Feed(%.20v) = %.20v, %d, want %.20v, %d", b, got, e, bodies, want)
	}
}

func TestStreamOfPieces(t *testing.T) {
	s := frame.New()
	looks(t, s, 0, 1, 0, false)
	feeds(t, s, nil, nil, api.OK)
	feeds(t, s, []byte{1}, nil, api.OK)
	looks(t, s, 1, 1, 0, false)
	feeds(t, s, []byte{5, 0, 2, 6}, [][]byte{{5}, nil}, api.OK)
	looks(t, s, 2, 1, 2, false)
	feeds(t, s, []byte{}, nil, api.OK)
	looks(t, s, 2, 1, 2, false)
	feeds(t, s, []byte{9, 255}, [][]byte{{6, 9}}, frame.ErrWrong)
	looks(t, s, 0, 0, 3, true)
}

func TestStreamThatIsDead(t *testing.T) {
	for _, b := range wrong {
		for _, front := range [][][]byte{nil, {nil}, {{1, 2}, {3}}, {filled(300), nil}} {
			frames, _, _ := frame.Join(front)
			once := frame.New()
			feeds(t, once, slices.Concat(frames, b), front, frame.ErrWrong)
			twice := frame.New()
			feeds(t, twice, frames, front, api.OK)
			feeds(t, twice, b, nil, frame.ErrWrong)
			for _, s := range []*frame.Stream{once, twice} {
				for _, more := range [][]byte{nil, {}, {0}, {1, 5}, b} {
					looks(t, s, 0, 0, len(front), true)
					feeds(t, s, more, nil, frame.ErrWrong)
				}
				looks(t, s, 0, 0, len(front), true)
			}
		}
	}
}

func TestStreamDiesAtTheFirstWrongByte(t *testing.T) {
	f := allFirsts()
	for _, b := range wrong {
		s := frame.New()
		for k := range b {
			_, to, e := f.read(b[:k+1])
			if e == frame.ErrWrong {
				feeds(t, s, b[k:k+1], nil, frame.ErrWrong)
				looks(t, s, 0, 0, 0, true)
				continue
			}
			feeds(t, s, b[k:k+1], nil, api.OK)
			looks(t, s, k+1, to-k-1, 0, false)
		}
	}
}

func TestStreamsAreApart(t *testing.T) {
	a, b := frame.New(), frame.New()
	feeds(t, a, []byte{3, 1}, nil, api.OK)
	looks(t, b, 0, 1, 0, false)
	feeds(t, b, []byte{2, 9, 9, 255}, [][]byte{{9, 9}}, frame.ErrWrong)
	looks(t, a, 2, 2, 0, false)
	feeds(t, a, []byte{2, 3}, [][]byte{{1, 2, 3}}, api.OK)
	looks(t, frame.New(), 0, 1, 0, false)
}

// P3.4

func TestWhatStreamsHoldAndNeed(t *testing.T) {
	for _, c := range short {
		for _, front := range [][][]byte{nil, {nil}, {{5}, {6, 7}, filled(16384)}} {
			frames, _, _ := frame.Join(front)
			s := frame.New()
			feeds(t, s, slices.Concat(frames, c.b), front, api.OK)
			looks(t, s, len(c.b), c.need, len(front), false)
		}
	}
}

func TestReset(t *testing.T) {
	for _, b := range [][]byte{nil, {1}, {248, 1}, {1, 5}, {1, 5, 2}, {0, 0, 255}, {249}} {
		s := frame.New()
		s.Feed(b)
		for range 2 {
			if e := s.Reset(); e != api.OK {
				t.Fatalf("Reset after %v: %d", b, e)
			}
			looks(t, s, 0, 1, 0, false)
		}
		feeds(t, s, []byte{1, 5, 0, 2, 6}, [][]byte{{5}, nil}, api.OK)
		looks(t, s, 2, 1, 2, false)
	}
}

func TestStreamsThatAreNone(t *testing.T) {
	for _, s := range []*frame.Stream{nil, {}, new(frame.Stream)} {
		for range 2 {
			for _, b := range [][]byte{nil, {1}, {1, 5}, {255}} {
				feeds(t, s, b, nil, api.ErrNil)
				looks(t, s, 0, 0, 0, false)
			}
			if e := s.Reset(); e != api.ErrNil {
				t.Errorf("Reset of no stream: %d", e)
			}
			looks(t, s, 0, 0, 0, false)
		}
	}
}

// P3.5

func TestPiecesDoNotMatter(t *testing.T) {
	f := allFirsts()
	for b := range few([]byte{0, 1, 2, 246, 247, 248, 249}, 5) {
		bodies, rest, want := f.split(b)
		held, need := 0, 0
		if want != frame.ErrWrong {
			_, to, _ := f.read(rest)
			held, need = len(rest), to-len(rest)
		}
		for cuts := range 1 << max(len(b)-1, 0) {
			s := frame.New()
			var got [][]byte
			for from, at := 0, 0; at < len(b); at++ {
				if at+1 < len(b) && cuts>>at&1 == 0 {
					continue
				}
				l, _ := s.Feed(b[from : at+1])
				got = append(got, l...)
				from = at + 1
			}
			if !same(got, bodies) || s.Held() != held || s.Need() != need || s.Frames() != len(bodies) || s.Dead() != (want == frame.ErrWrong) {
				t.Fatalf("%v with the cuts %b: %v, %d, %d, %d, %v", b, cuts, got, s.Held(), s.Need(), s.Frames(), s.Dead())
			}
		}
	}
}

func TestLongStreams(t *testing.T) {
	f := allFirsts()
	var bodies [][]byte
	for _, c := range written {
		bodies = append(bodies, c.body, nil)
	}
	all, _, _ := frame.Join(bodies)
	for _, piece := range []int{1, 2, 3, 7, 247, 1000, 16386, 16387, 16388, 40000, len(all)} {
		s := frame.New()
		var got [][]byte
		fed := 0
		for b := range slices.Chunk(all, piece) {
			l, e := s.Feed(b)
			if e != api.OK {
				t.Fatal(e)
			}
			fed += len(b)
			for _, body := range l {
				got = append(got, body)
				fed -= len(whole(body))
			}
			if s.Held() != fed || s.Held() > frame.MaxBody+2 || s.Frames() != len(got) {
				t.Fatalf("in pieces of %d bytes: %d held, want %d; %d frames, want %d", piece, s.Held(), fed, s.Frames(), len(got))
			}
		}
		if !same(got, bodies) {
			t.Fatalf("in pieces of %d bytes: %d bodies, want %d", piece, len(got), len(bodies))
		}
		looks(t, s, 0, 1, len(bodies), false)
	}
	if got, rest, e := f.split(all); !same(got, bodies) || len(rest) != 0 || e != api.OK {
		t.Error("what is joined is no frames:", len(got), len(rest), e)
	}
}

func TestNoStreamHoldsMore(t *testing.T) {
	s := frame.New()
	most := whole(filled(16384))[:16386]
	feeds(t, s, most, nil, api.OK)
	looks(t, s, 16386, 1, 0, false)
	feeds(t, s, []byte{filled(16384)[16383]}, [][]byte{filled(16384)}, api.OK)
	looks(t, s, 0, 1, 1, false)
}

func TestNoFrameIsTheBeginningOfAnother(t *testing.T) {
	f := allFirsts()
	for h, size := range f.heads {
		for k := range h {
			if _, is := f.heads[h[:k]]; is {
				t.Fatalf("the head of %d bytes begins with another one", size)
			}
		}
		b, _ := frame.Write(make([]byte, size))
		if _, _, e := frame.Read(b[:len(b)-1]); string(b[:len(h)]) != h || e != frame.ErrShort {
			t.Fatalf("the frame of %d bytes begins with another one", size)
		}
	}
}

func TestWhatIsWrittenIsReadBack(t *testing.T) {
	for size := 0; size <= 16384; size += 1 + size/50 {
		body := filled(size)
		b, _ := frame.Write(body)
		for _, behind := range [][]byte{nil, {0}, {255}, {247}, {248, 64, 0}, filled(20)} {
			if got, n, e := frame.Read(slices.Concat(b, behind)); !bytes.Equal(got, body) || n != len(b) || e != api.OK {
				t.Fatalf("%d bytes, with %v behind them, are read back as %d, %d, %d", size, behind, len(got), n, e)
			}
		}
		joined, _, _ := frame.Join([][]byte{body, {1}, body})
		if got, n, e := frame.Split(joined); !same(got, [][]byte{body, {1}, body}) || n != len(joined) || e != api.OK {
			t.Fatalf("%d bytes, joined, are split as %d bodies, %d, %d", size, len(got), n, e)
		}
	}
}

func TestWithFewerBytesThanNeededNoFrameIsWhole(t *testing.T) {
	f := allFirsts()
	for size := range 16385 {
		h := head(size)
		for k := range len(h) + 1 {
			if f.least[string(h[:k])] != len(h)+size || size == 0 && k == 1 {
				continue // a smaller frame begins so, or this one is whole
			}
			s := frame.New()
			feeds(t, s, h[:k], nil, api.OK)
			missing := slices.Concat(h[k:], make([]byte, size))
			if s.Need() != len(missing) {
				t.Fatalf("%v needs %d bytes, want %d", h[:k], s.Need(), len(missing))
			}
			for _, other := range []byte{0, 1, 64, 255} {
				s.Reset()
				s.Feed(h[:k])
				if l, _ := s.Feed(bytes.Repeat([]byte{other}, len(missing)-1)); len(l) != 0 || s.Frames() != 0 {
					t.Fatalf("%v is whole with fewer bytes than it needs", h[:k])
				}
			}
			s.Reset()
			feeds(t, s, h[:k], nil, api.OK)
			feeds(t, s, missing[:len(missing)-1], nil, api.OK)
			feeds(t, s, []byte{0}, [][]byte{make([]byte, size)}, api.OK)
		}
	}
}

// Arguments stay as they are, and results are new.

func TestArgumentsAreKept(t *testing.T) {
	for b := range few(telling, 4) {
		room := append(slices.Clone(b), 77, 78, 79, 80)
		before := slices.Clone(room)
		b = room[:len(b)]
		frame.Write(b)
		frame.Read(b)
		frame.Need(b)
		frame.Split(b)
		s := frame.New()
		s.Feed(b)
		s.Feed(b)
		s.Feed([]byte{1, 5, 6})
		bodies := [][]byte{b, nil, b[:len(b)/2], {55}}
		frame.Join(bodies[:3])
		if !slices.Equal(room, before) || !same(bodies, [][]byte{b, nil, b[:len(b)/2], {55}}) {
			t.Fatalf("%v was modified: %v, %v", before, room, bodies)
		}
	}
}

func TestStreamsKeepNoArgument(t *testing.T) {
	s := frame.New()
	b := append(make([]byte, 0, 50), 3, 1, 2)
	feeds(t, s, b, nil, api.OK)
	clear(b[:50])
	b = append(b[:0], 3, 2, 8)
	feeds(t, s, b, [][]byte{{1, 2, 3}}, api.OK)
	clear(b[:50])
	feeds(t, s, []byte{9}, [][]byte{{8, 9}}, api.OK)
}

// spoil overwrites bytes, and what there is room for behind them.
func spoil(b []byte) {
	b = b[:cap(b)]
	for i := range b {
		b[i] = 88
	}
}

func TestResultsShareNoMemory(t *testing.T) {
	bodies := [][]byte{{1, 2, 3}, filled(300), {4}, {5, 6}}
	kept := [][]byte{{1, 2, 3}, filled(300), {4}, {5, 6}}
	b, _, _ := frame.Join(bodies)
	keptB := slices.Clone(b)
	written, _ := frame.Write(bodies[0])
	spoil(written)
	read, _, _ := frame.Read(b)
	spoil(read)
	split, _, _ := frame.Split(b)
	s := frame.New()
	fed, _ := s.Feed(slices.Concat(b, []byte{3, 1}))
	for _, l := range [][][]byte{split, fed} {
		for i := range l {
			spoil(l[i])
			if !same(l[i+1:], kept[i+1:]) {
				t.Errorf("the body %d shares memory with another one", i)
			}
		}
	}
	feeds(t, s, []byte{2, 3}, [][]byte{{1, 2, 3}}, api.OK)
	if !bytes.Equal(b, keptB) {
		t.Error("a body shares memory with the bytes it was read from:", b)
	}
	spoil(b)
	if !same(bodies, kept) {
		t.Error("frames share memory with their bodies:", bodies)
	}
}
