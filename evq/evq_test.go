package evq_test

import (
	"math/rand"
	"slices"
	"testing"

	"fermata/api"
	"fermata/evq"
	"fermata/key"
)

const (
	most  = 1<<63 - 1 // the greatest number
	least = -most - 1 // the least number
	huge  = 1 << 32   // what makes a wrong number look right if it is cut to 32 bits
)

// at returns an event with a key, for a process.
func at(time, source, seq, to int) api.Event {
	return api.Event{Key: api.Key{Time: time, Source: source, Seq: seq}, To: to, Value: int64(100*time + 10*source + seq)}
}

// many returns events with the seqs from one on, of the source 3.
func many(from, n int) []api.Event {
	var l []api.Event
	for i := range n {
		l = append(l, at(i*7%5, 3, from+i, 1+i%16))
	}
	return l
}

// none is no event.
var none api.Event

// order compares two events by their keys, without package key.
func order(a, b api.Event) int {
	x, y := a.Key, b.Key
	for _, p := range [][2]int{{x.Time, y.Time}, {x.Source, y.Source}, {x.Seq, y.Seq}} {
		switch {
		case p[0] < p[1]:
			return -1
		case p[0] > p[1]:
			return 1
		}
	}
	return 0
}

// model is by the document a queue: its capacity, and its events in order.
type model struct {
	capacity int
	l        []api.Event
}

// find returns the index of the event with a name, or -1.
func (m *model) find(source, seq int) int {
	return slices.IndexFunc(m.l, func(x api.Event) bool { return x.Key.Source == source && x.Key.Seq == seq })
}

// putAll puts all events of a list in, or none.
func (m *model) putAll(l []api.Event) (int, api.Errno) {
	for i, x := range l {
		if !evq.Right(x) {
			return i, evq.ErrEvent
		}
	}
	for i, x := range l {
		before := &model{l: l[:i]}
		if m.find(x.Key.Source, x.Key.Seq) >= 0 || before.find(x.Key.Source, x.Key.Seq) >= 0 {
			return i, evq.ErrTwice
		}
	}
	if len(m.l)+len(l) > m.capacity {
		return -1, api.ErrFull
	}
	m.l = append(slices.Clone(m.l), l...)
	slices.SortFunc(m.l, order)
	return -1, api.OK
}

// cut takes an event out by its index.
func (m *model) cut(i int) (api.Event, api.Errno) {
	if i < 0 || i >= len(m.l) {
		return none, api.ErrNone
	}
	x := m.l[i]
	m.l = slices.Concat(m.l[:i], m.l[i+1:])
	return x, api.OK
}

// before returns how many events are before a time.
func (m *model) before(t int) int {
	n := 0
	for n < len(m.l) && m.l[n].Key.Time < t {
		n++
	}
	return n
}

// ready returns the processes that have an event before a time.
func (m *model) ready(t int) []int {
	var l []int
	for to := range 17 {
		if slices.ContainsFunc(m.l[:m.before(t)], func(x api.Event) bool { return x.To == to }) {
			l = append(l, to)
		}
	}
	return l
}

// from returns the events from a key on, but not more than a number.
func (m *model) from(k api.Key, n int) []api.Event {
	var l []api.Event
	for _, x := range m.l {
		if order(x, api.Event{Key: k}) >= 0 && len(l) < n {
			l = append(l, x)
		}
	}
	return l
}

// made returns a queue with a capacity, and events that are put in one after the other.
func made(t *testing.T, capacity int, l ...api.Event) *evq.Queue {
	t.Helper()
	q, e := evq.New(capacity)
	if q == nil || e != api.OK {
		t.Fatalf("New(%d): %v %d", capacity, q, e)
	}
	for _, x := range l {
		put(t, q, x, api.OK)
	}
	return q
}

// put puts an event in, with an error that has to be this one.
func put(t *testing.T, q *evq.Queue, x api.Event, want api.Errno) {
	t.Helper()
	if e := q.Put(x); e != want {
		t.Fatalf("Put(%v): %d, not %d", x, e, want)
	}
}

// putAll puts events in, with an index and an error that have to be these.
func putAll(t *testing.T, q *evq.Queue, l []api.Event, index int, want api.Errno) {
	t.Helper()
	if i, e := q.PutAll(l); i != index || e != want {
		t.Fatalf("PutAll(%v): %d %d, not %d %d", l, i, e, index, want)
	}
}

// take takes an event, which has to be this one.
func take(t *testing.T, q *evq.Queue, want api.Event) {
	t.Helper()
	if x, e := q.Take(); x != want || e != api.OK {
		t.Fatalf("Take: %v %d, not %v", x, e, want)
	}
}

// cancel takes the event with a name out, which has to be this one.
func cancel(t *testing.T, q *evq.Queue, source, seq int, want api.Event) {
	t.Helper()
	if x, e := q.Cancel(source, seq); x != want || e != api.OK {
		t.Fatalf("Cancel(%d, %d): %v %d, not %v", source, seq, x, e, want)
	}
}

// equal holds a list of events against what it has to be.
func equal(t *testing.T, what string, l, want []api.Event) {
	t.Helper()
	if !slices.Equal(l, want) {
		t.Fatalf("%s: %v, not %v", what, l, want)
	}
}

// same holds a queue against a model: everything that it tells.
func same(t *testing.T, q *evq.Queue, m *model) {
	t.Helper()
	equal(t, "All", q.All(), m.l)
	if q.Len() != len(m.l) || q.Room() != m.capacity-len(m.l) {
		t.Fatalf("Len: %d, Room: %d, of %d in %d", q.Len(), q.Room(), len(m.l), m.capacity)
	}
	var first api.Event
	if len(m.l) > 0 {
		first = m.l[0]
	}
	if x, is := q.Least(); x != first || is != (len(m.l) > 0) {
		t.Fatalf("Least: %v %v, not %v", x, is, first)
	}
	for source := -1; source <= 17; source++ {
		for seq := -1; seq <= 12; seq++ {
			var want api.Event
			i := m.find(source, seq)
			if i >= 0 {
				want = m.l[i]
			}
			if x, is := q.Find(source, seq); x != want || is != (i >= 0) {
				t.Fatalf("Find(%d, %d): %v %v, not %v", source, seq, x, is, want)
			}
		}
	}
	for _, s := range []int{least, -huge, -1, 0, 1, 2, 3, 4, 5, 6, 7, 8, 9, huge, api.MaxTime, api.MaxTime + 1, most} {
		if l := q.Ready(s); !slices.Equal(l, m.ready(s)) {
			t.Fatalf("Ready(%d): %v, not %v", s, l, m.ready(s))
		}
		for _, n := range []int{0, 1, 2, 5, most} {
			k := api.Key{Time: s, Source: 2, Seq: 3}
			equal(t, "From", q.From(k, n), m.from(k, n))
		}
	}
}

// P10.1

func TestConstants(t *testing.T) {
	if evq.MaxEvents != 256 || evq.ErrEvent != 100 || evq.ErrTwice != 101 {
		t.Error(evq.MaxEvents, evq.ErrEvent, evq.ErrTwice)
	}
}

// right are events that are right; those of each pair of these have different names.
var right = []api.Event{
	{Key: api.Key{}, To: 1},
	{Key: api.Key{Time: 1 << 48, Source: 16, Seq: huge - 1}, To: 16, Value: most},
	{Key: api.Key{Time: 5, Source: 1, Seq: 7}, To: 1, Value: least},
	{Key: api.Key{Time: 5, Source: 0, Seq: 8}, To: 9},
}

// wrongs are events that are not right.
var wrongs = []api.Event{
	at(-1, 0, 0, 1), at(1<<48+1, 0, 0, 1), at(least, 0, 0, 1), at(most, 0, 0, 1), at(1<<49, 0, 0, 1),
	at(0, -1, 0, 1), at(0, 17, 0, 1), at(0, least, 0, 1), at(0, most, 0, 1), at(0, huge, 0, 1), at(0, 256, 0, 1),
	at(0, 0, -1, 1), at(0, 0, huge, 1), at(0, 0, least, 1), at(0, 0, most, 1),
	at(0, 0, 0, 0), at(0, 0, 0, -1), at(0, 0, 0, 17), at(0, 0, 0, least), at(0, 0, 0, most), at(0, 0, 0, huge+1), at(0, 0, 0, 257),
	none,
}

func TestRight(t *testing.T) {
	for _, x := range right {
		if !evq.Right(x) {
			t.Error("not right:", x)
		}
	}
	for _, x := range wrongs {
		if evq.Right(x) {
			t.Error("right:", x)
		}
	}
	for to := -3; to < 20; to++ {
		if evq.Right(at(1, 1, 1, to)) != (to >= 1 && to <= 16) {
			t.Error(to)
		}
	}
	for _, x := range append(right, wrongs...) {
		if x.To >= 1 && x.To <= 16 && evq.Right(x) != key.Right(x.Key) {
			t.Error(x)
		}
	}
}

func TestNew(t *testing.T) {
	for _, n := range []int{0, 1, 2, 255, 256} {
		same(t, made(t, n), &model{capacity: n})
	}
	for _, n := range []int{least, -huge, -256, -1, 257, 258, 4096, huge, huge + 1, most} {
		if q, e := evq.New(n); q != nil || e != api.ErrArg {
			t.Errorf("New(%d): %v %d", n, q, e)
		}
	}
}

// P10.2

func TestPut(t *testing.T) {
	q, m := made(t, 9), &model{capacity: 9}
	for _, x := range right {
		put(t, q, x, api.OK)
		m.putAll([]api.Event{x})
		same(t, q, m)
	}
	for _, x := range wrongs {
		put(t, q, x, evq.ErrEvent)
		same(t, q, m)
	}
	for _, x := range right { // the same name, whatever the rest is
		put(t, q, x, evq.ErrTwice)
		x.Key.Time, x.To, x.Value = 77, 3, 5
		put(t, q, x, evq.ErrTwice)
		same(t, q, m)
	}
	put(t, q, at(5, 1, 8, 1), api.OK) // the seq of one, and the source of another
	put(t, q, at(5, 0, 7, 1), api.OK)
	put(t, q, at(5, 7, 1, 1), api.OK) // a name the other way round
}

func TestPutFull(t *testing.T) {
	for _, n := range []int{0, 1, 5, 256} {
		l := many(0, n)
		q, m := made(t, n, l...), &model{capacity: n}
		m.putAll(l)
		same(t, q, m)
		put(t, q, at(1, 1, 1, 1), api.ErrFull)
		for _, x := range l {
			put(t, q, at(8, x.Key.Source, x.Key.Seq, 2), evq.ErrTwice)
		}
		for _, x := range wrongs {
			put(t, q, x, evq.ErrEvent)
		}
		same(t, q, m)
	}
}

func TestPutOrder(t *testing.T) {
	q := made(t, 1, at(5, 3, 0, 1))
	put(t, q, at(-1, 3, 0, 1), evq.ErrEvent) // also one with a name that is there
	put(t, q, at(5, 3, 0, 17), evq.ErrEvent)
	put(t, q, at(5, 3, 0, 1), evq.ErrTwice) // also if there is no room
	put(t, q, at(5, 3, 1, 1), api.ErrFull)
}

func TestPutAll(t *testing.T) {
	a, b, c, d := at(4, 1, 0, 1), at(3, 2, 0, 2), at(9, 0, 5, 3), at(4, 0, 6, 1)
	q, m := made(t, 5, a), &model{capacity: 5}
	m.putAll([]api.Event{a})
	for _, l := range [][]api.Event{nil, {}, {b}, {c, d}} {
		putAll(t, q, l, -1, api.OK)
		m.putAll(l)
		same(t, q, m)
	}
	equal(t, "All", q.All(), []api.Event{b, d, a, c})
	putAll(t, q, []api.Event{at(1, 9, 9, 9)}, -1, api.OK)
	putAll(t, q, nil, -1, api.OK) // there is room for none
}

func TestPutAllWrong(t *testing.T) {
	here, x, y, z, bad := at(4, 1, 0, 1), at(3, 2, 0, 2), at(9, 0, 5, 3), at(9, 0, 6, 3), at(1, 7, 7, 0)
	hereToo, xToo := at(5, 1, 0, 2), at(8, 2, 0, 1)
	for i, c := range []struct {
		l     []api.Event
		index int
		want  api.Errno
	}{
		{[]api.Event{bad}, 0, evq.ErrEvent},
		{[]api.Event{x, bad, bad}, 1, evq.ErrEvent},
		{[]api.Event{here, x, x, bad}, 3, evq.ErrEvent}, // before what is twice, and what is too much
		{[]api.Event{here}, 0, evq.ErrTwice},
		{[]api.Event{x, hereToo}, 1, evq.ErrTwice},
		{[]api.Event{x, y, xToo}, 2, evq.ErrTwice},
		{[]api.Event{x, x, here}, 1, evq.ErrTwice},
		{[]api.Event{x, here, x}, 1, evq.ErrTwice},
		{[]api.Event{x, y, z, z, at(1, 1, 1, 1)}, 3, evq.ErrTwice}, // before what is too much
		{[]api.Event{x, y, z}, -1, api.ErrFull},
		{[]api.Event{x, y, z, at(1, 1, 1, 1)}, -1, api.ErrFull},
		{many(0, 256), -1, api.ErrFull},
		{many(0, 3000), -1, api.ErrFull},
		{append(many(0, 3000), at(0, 3, 2999, 1)), 3000, evq.ErrTwice},
	} {
		q, m := made(t, 3, here), &model{capacity: 3, l: []api.Event{here}}
		before := slices.Clone(c.l)
		if n, e := q.PutAll(c.l); n != c.index || e != c.want {
			t.Errorf("%d: %d %d, not %d %d", i, n, e, c.index, c.want)
		}
		same(t, q, m)
		equal(t, "argument", c.l, before)
		put(t, q, x, api.OK) // nothing of the list is left
		put(t, q, y, api.OK)
	}
	for _, bad := range wrongs {
		q := made(t, 0)
		putAll(t, q, []api.Event{x, x, bad, none}, 2, evq.ErrEvent)
	}
	putAll(t, made(t, 256), many(0, 256), -1, api.OK)
	putAll(t, made(t, 256), many(0, 257), -1, api.ErrFull)
	putAll(t, made(t, 0), nil, -1, api.OK)
}

// P10.3

func TestTake(t *testing.T) {
	q := made(t, 4, at(7, 1, 0, 2), at(7, 0, 9, 1), at(2, 3, 0, 2), at(7, 1, 1, 2))
	take(t, q, at(2, 3, 0, 2))
	take(t, q, at(7, 0, 9, 1)) // by the source
	put(t, q, at(0, 5, 5, 5), api.OK)
	take(t, q, at(0, 5, 5, 5))
	take(t, q, at(7, 1, 0, 2)) // by the seq
	take(t, q, at(7, 1, 1, 2))
	for range 2 {
		if x, e := q.Take(); x != none || e != api.ErrNone {
			t.Error(x, e)
		}
		same(t, q, &model{capacity: 4})
	}
	put(t, q, at(3, 0, 0, 1), api.OK) // of the name that no event has, too
	take(t, q, at(3, 0, 0, 1))
	if x, e := made(t, 0).Take(); x != none || e != api.ErrNone {
		t.Error(x, e)
	}
}

func TestTakeBefore(t *testing.T) {
	a, b, c, d := at(0, 1, 0, 1), at(3, 2, 0, 2), at(3, 2, 1, 3), at(1<<48, 0, 6, 1)
	l := []api.Event{a, b, c, d}
	for _, x := range []struct{ time, n int }{{least, 0}, {-1, 0}, {0, 0}, {1, 1}, {3, 1}, {4, 3}, {huge, 3}, {1 << 48, 3}, {1<<48 + 1, 4}, {most, 4}} {
		q := made(t, 4, d, b, a, c)
		equal(t, "TakeBefore", q.TakeBefore(x.time), l[:x.n])
		same(t, q, &model{capacity: 4, l: l[x.n:]})
		equal(t, "TakeBefore", q.TakeBefore(x.time), nil)
		putAll(t, q, l[:x.n], -1, api.OK)
		same(t, q, &model{capacity: 4, l: l})
	}
	equal(t, "TakeBefore", made(t, 0).TakeBefore(most), nil)
}

func TestCancel(t *testing.T) {
	a, b, c := at(3, 1, 0, 1), at(3, 2, 0, 2), at(1, 1, 2, 3)
	q, m := made(t, 3, a, b, c), &model{capacity: 3, l: []api.Event{c, a, b}}
	for _, x := range [][2]int{{0, 0}, {0, 1}, {2, 1}, {2, 2}, {-1, 0}, {17, 0}, {1, -1}, {1, huge}, {huge + 1, 0}, {1, huge + 2}, {least, most}, {most, least}} {
		if x, e := q.Cancel(x[0], x[1]); x != none || e != api.ErrNone {
			t.Error(x, e)
		}
		same(t, q, m)
	}
	cancel(t, q, 1, 0, a) // one in the midst
	same(t, q, &model{capacity: 3, l: []api.Event{c, b}})
	if x, e := q.Cancel(1, 0); x != none || e != api.ErrNone {
		t.Error(x, e)
	}
	cancel(t, q, 1, 2, c) // the least one
	cancel(t, q, 2, 0, b) // the last one
	same(t, q, &model{capacity: 3})
	put(t, q, a, api.OK)
	cancel(t, q, 1, 0, a)
}

func TestClear(t *testing.T) {
	for _, n := range []int{0, 1, 5, 256} {
		q := made(t, n, many(0, n)...)
		for _, want := range []int{n, 0} {
			if k, e := q.Clear(); k != want || e != api.OK {
				t.Errorf("Clear: %d %d, not %d", k, e, want)
			}
			same(t, q, &model{capacity: n})
		}
		putAll(t, q, many(0, n), -1, api.OK)
		if q.Len() != n {
			t.Error(q.Len())
		}
	}
}

// P10.4

func TestFind(t *testing.T) {
	q := made(t, 3, at(3, 1, 2, 1), at(3, 2, 1, 2))
	for range 2 { // it takes nothing
		if x, is := q.Find(1, 2); x != at(3, 1, 2, 1) || !is {
			t.Error(x, is)
		}
		if x, is := q.Find(2, 1); x != at(3, 2, 1, 2) || !is {
			t.Error(x, is)
		}
	}
	for _, x := range [][2]int{{1, 1}, {2, 2}, {0, 0}, {huge + 1, 2}, {1, huge + 2}, {least, 2}, {1, most}} {
		if x, is := q.Find(x[0], x[1]); x != none || is {
			t.Error(x, is)
		}
	}
}

func TestFrom(t *testing.T) {
	a, b, c, d := at(0, 1, 0, 1), at(3, 2, 1, 2), at(3, 2, 2, 3), at(8, 0, 6, 1)
	q := made(t, 9, d, c, b, a)
	l := []api.Event{a, b, c, d}
	for i, x := range []struct{ time, source, seq, first int }{
		{least, most, most, 0}, {-1, 99, 99, 0}, {0, 0, 99, 0}, {0, 1, -1, 0}, {0, 1, 0, 0}, {0, 1, 1, 1},
		{0, 2, 0, 1}, {3, least, most, 1}, {3, 2, 1, 1}, {3, 2, 2, 2}, {3, 2, 3, 3}, {3, 3, 0, 3}, {3, most, least, 3},
		{8, 0, 6, 3}, {8, 0, 7, 4}, {8, 1, 0, 4}, {9, 0, 0, 4}, {huge, 0, 0, 4}, {most, least, least, 4},
	} {
		k := api.Key{Time: x.time, Source: x.source, Seq: x.seq}
		for _, n := range []int{least, -huge, -1, 0, 1, 2, 3, 4, 5, huge, huge + 1, most} {
			want := l[x.first:]
			if n < len(want) {
				want = want[:max(n, 0)]
			}
			if got := q.From(k, n); !slices.Equal(got, want) {
				t.Errorf("%d: From(%v, %d): %v, not %v", i, k, n, got, want)
			}
		}
	}
	same(t, q, &model{capacity: 9, l: l})
}

func TestReady(t *testing.T) {
	q := made(t, 9, at(1, 0, 0, 16), at(1, 0, 1, 3), at(2, 0, 2, 1), at(2, 1, 0, 3), at(5, 0, 3, 2), at(5, 0, 4, 3))
	for _, x := range []struct {
		time int
		want []int
	}{{least, nil}, {-1, nil}, {0, nil}, {1, nil}, {2, []int{3, 16}}, {3, []int{1, 3, 16}}, {5, []int{1, 3, 16}}, {6, []int{1, 2, 3, 16}}, {most, []int{1, 2, 3, 16}}} {
		if l := q.Ready(x.time); !slices.Equal(l, x.want) {
			t.Errorf("Ready(%d): %v, not %v", x.time, l, x.want)
		}
	}
	if q.Len() != 6 {
		t.Error(q.Len())
	}
	full := made(t, 256, many(0, 256)...)
	if l := full.Ready(9); len(l) != 16 || l[0] != 1 || l[15] != 16 || !slices.IsSorted(l) {
		t.Error(l)
	}
}

func TestCopy(t *testing.T) {
	for _, n := range []int{0, 3, 256} {
		l := many(0, n/2)
		q, m := made(t, n, l...), &model{capacity: n}
		m.putAll(l)
		if n > 0 {
			cancel(t, q, 3, 0, l[0])
			m.cut(m.find(3, 0))
		}
		d, e := q.Copy()
		if d == nil || d == q || e != api.OK {
			t.Fatal(d, e)
		}
		same(t, d, m)
		before := &model{n, m.l}
		d.Clear()
		same(t, q, before)
		same(t, d, &model{capacity: n})
		x := at(1, 1, 1, 1)
		if n > 0 {
			put(t, d, x, api.OK)
			put(t, q, at(2, 1, 1, 2), api.OK) // another one with this name
			take(t, d, x)
			cancel(t, q, 1, 1, at(2, 1, 1, 2))
		}
		same(t, q, before)
	}
}

func TestMemory(t *testing.T) {
	l := []api.Event{at(3, 1, 0, 1), at(4, 2, 0, 2), at(5, 1, 2, 3)}
	q, m := made(t, 5), &model{capacity: 5, l: slices.Clone(l)}
	room := slices.Grow(slices.Clone(l), 9)
	putAll(t, q, room, -1, api.OK)
	clear(room[:9]) // what was passed is not kept
	same(t, q, m)
	clear(q.All())
	clear(q.From(api.Key{}, 9))
	clear(q.Ready(9))
	_ = append(q.All()[:1], at(9, 9, 9, 9))
	_ = append(q.From(api.Key{}, 1), at(9, 9, 9, 9))
	same(t, q, m)
	all, from, ready := q.All(), q.From(api.Key{}, 2), q.Ready(5)
	taken := q.TakeBefore(5)
	putAll(t, q, []api.Event{at(0, 9, 9, 9), at(1, 9, 8, 9)}, -1, api.OK)
	q.Take()
	equal(t, "All", all, l)
	equal(t, "From", from, l[:2])
	equal(t, "TakeBefore", taken, l[:2])
	if !slices.Equal(ready, []int{1, 2}) {
		t.Error(ready)
	}
	clear(taken)
	same(t, q, &model{capacity: 5, l: []api.Event{at(1, 9, 8, 9), l[2]}})
}

func TestTwoQueues(t *testing.T) {
	a, b := made(t, 3, at(1, 1, 1, 1)), made(t, 3)
	same(t, b, &model{capacity: 3})
	put(t, b, at(2, 1, 1, 1), api.OK)
	if x, e := a.Cancel(1, 1); x != at(1, 1, 1, 1) || e != api.OK {
		t.Error(x, e)
	}
	same(t, b, &model{capacity: 3, l: []api.Event{at(2, 1, 1, 1)}})
}

// event returns an event at random, of few names; one that is not right now and then.
func event(r *rand.Rand) api.Event {
	x := at(r.Intn(8), r.Intn(4), r.Intn(7), 1+r.Intn(16))
	x.Value = r.Int63()
	if r.Intn(20) == 0 {
		x.To = 17 * r.Intn(2)
	}
	return x
}

// events returns up to 4 events at random.
func events(r *rand.Rand) []api.Event {
	var l []api.Event
	for range r.Intn(5) {
		l = append(l, event(r))
	}
	return l
}

// putAny puts one or several events in at random, in a queue and its model.
func putAny(t *testing.T, r *rand.Rand, q *evq.Queue, m *model) {
	t.Helper()
	if r.Intn(2) == 0 {
		x := event(r)
		_, want := m.putAll([]api.Event{x})
		put(t, q, x, want)
		return
	}
	l := events(r)
	i, want := m.putAll(l)
	putAll(t, q, l, i, want)
}

// takeAny takes events out at random, of a queue and its model.
func takeAny(t *testing.T, r *rand.Rand, q *evq.Queue, m *model) {
	t.Helper()
	switch r.Intn(12) {
	case 0:
		n := len(m.l)
		m.l = nil
		if k, e := q.Clear(); k != n || e != api.OK {
			t.Fatalf("Clear: %d %d, not %d", k, e, n)
		}
	case 1, 2:
		s := r.Intn(5)
		n := m.before(s)
		want := m.l[:n]
		m.l = m.l[n:]
		equal(t, "TakeBefore", q.TakeBefore(s), want)
	case 3, 4, 5:
		want, f := m.cut(0)
		if x, e := q.Take(); x != want || e != f {
			t.Fatalf("Take: %v %d, not %v %d", x, e, want, f)
		}
	default:
		source, seq := r.Intn(4), r.Intn(7)
		want, f := m.cut(m.find(source, seq))
		if x, e := q.Cancel(source, seq); x != want || e != f {
			t.Fatalf("Cancel: %v %d, not %v %d", x, e, want, f)
		}
	}
}

func TestRandom(t *testing.T) {
	r := rand.New(rand.NewSource(10))
	for range 100 {
		n := r.Intn(20)
		q, m := made(t, n), &model{capacity: n}
		for range 150 {
			if r.Intn(3) > 0 {
				putAny(t, r, q, m)
			} else {
				takeAny(t, r, q, m)
			}
			same(t, q, m)
			if r.Intn(30) == 0 {
				q, _ = q.Copy()
			}
		}
	}
}

// P10.5

func TestOrderOfPuts(t *testing.T) {
	r := rand.New(rand.NewSource(5))
	l := many(0, 256)
	want := slices.Clone(l)
	slices.SortFunc(want, order)
	for range 5 {
		r.Shuffle(len(l), func(i, j int) { l[i], l[j] = l[j], l[i] })
		q := made(t, 256, l...)
		equal(t, "All", q.All(), want)
		n := r.Intn(200)
		for _, x := range want[:n] {
			take(t, q, x)
		}
		equal(t, "TakeBefore", q.TakeBefore(most), want[n:])
		all := made(t, 256)
		putAll(t, all, l, -1, api.OK)
		for _, x := range want {
			take(t, all, x)
		}
	}
}

func TestAgain(t *testing.T) {
	a, b := at(3, 1, 0, 1), at(3, 2, 0, 2)
	q := made(t, 2, a)
	for range 5000 { // what was taken, or cancelled, may be put again
		put(t, q, b, api.OK)
		put(t, q, at(9, 9, 9, 9), api.ErrFull)
		take(t, q, a)
		put(t, q, a, api.OK)
		cancel(t, q, 2, 0, b)
		if q.Room() != 1 {
			t.Fatal(q.Room())
		}
	}
	for range 5000 {
		putAll(t, q, []api.Event{b}, -1, api.OK)
		equal(t, "TakeBefore", q.TakeBefore(4), []api.Event{a, b})
		put(t, q, b, api.OK)
		if n, e := q.Clear(); n != 1 || e != api.OK || q.Room() != 2 {
			t.Fatal(n, e, q.Room())
		}
		put(t, q, a, api.OK)
	}
}

// Errors

func TestNoQueue(t *testing.T) {
	for _, q := range []*evq.Queue{nil, new(evq.Queue)} {
		for range 2 {
			for _, x := range []api.Event{none, at(1, 1, 1, 1), at(-1, 0, 0, 0)} {
				put(t, q, x, api.ErrNil)
				putAll(t, q, []api.Event{at(2, 2, 2, 2), x, x}, 0, api.ErrNil)
			}
			putAll(t, q, nil, 0, api.ErrNil)
			if x, e := q.Take(); x != none || e != api.ErrNil {
				t.Error(x, e)
			}
			if x, e := q.Cancel(1, 1); x != none || e != api.ErrNil {
				t.Error(x, e)
			}
			if n, e := q.Clear(); n != 0 || e != api.ErrNil {
				t.Error(n, e)
			}
			if d, e := q.Copy(); d != nil || e != api.ErrNil {
				t.Error(d, e)
			}
			same(t, q, &model{})
			equal(t, "TakeBefore", q.TakeBefore(most), nil)
		}
	}
}

// Examples

func TestExample(t *testing.T) {
	a, b := at(5, 1, 0, 1), at(3, 2, 0, 1)
	q := made(t, 2, a, b)
	put(t, q, at(9, 1, 0, 1), evq.ErrTwice)
	put(t, q, at(4, 1, 1, 1), api.ErrFull)
	if x, is := q.Least(); x != b || !is {
		t.Error(x, is)
	}
	equal(t, "TakeBefore", q.TakeBefore(5), []api.Event{b})
	if q.Room() != 1 {
		t.Error(q.Room())
	}
	putAll(t, q, []api.Event{at(4, 1, 1, 1), at(4, 1, 1, 1)}, 1, evq.ErrTwice)
	putAll(t, q, []api.Event{at(4, 1, 1, 1), at(4, 1, 2, 1)}, -1, api.ErrFull)
	cancel(t, q, 1, 0, a)
	if x, e := q.Take(); x != none || e != api.ErrNone {
		t.Error(x, e)
	}
}
