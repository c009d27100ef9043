package calendar_test

import (
	"math/rand"
	"slices"
	"testing"

	"fermata/api"
	"fermata/calendar"
	"fermata/evq"
	"fermata/merge"
)

const (
	most  = 1<<63 - 1 // the greatest number
	least = -most - 1 // the least number
	huge  = 1 << 32   // what makes a wrong number look right if it is cut to 32 bits
)

// list is a list of events.
type list = []api.Event

// at returns an event with a key, for a process.
func at(time, source, seq, to int) api.Event {
	return api.Event{Key: api.Key{Time: time, Source: source, Seq: seq}, To: to, Value: int64(100*time + 10*source + seq)}
}

// ats returns events with keys, for the process 1.
func ats(keys ...[3]int) list {
	var l list
	for _, k := range keys {
		l = append(l, at(k[0], k[1], k[2], 1))
	}
	return l
}

// many returns a number of events in order, of the source 3.
func many(n int) list {
	var l list
	for i := range n {
		l = append(l, at(i/3, 3, i, 1+i%16))
	}
	return l
}

// The acts, by their kinds.
func put(x api.Event) calendar.Act { return calendar.Act{Kind: calendar.Put, Event: x} }
func take() calendar.Act           { return calendar.Act{Kind: calendar.Take} }
func before(t int) calendar.Act    { return calendar.Act{Kind: calendar.Before, Time: t} }
func remove() calendar.Act         { return calendar.Act{Kind: calendar.Clear} }
func cancel(source, seq int) calendar.Act {
	return calendar.Act{Kind: calendar.Cancel, Event: at(0, source, seq, 0)}
}

// tells returns what an act tells that has an error, or takes some events.
func tells(e api.Errno, l ...api.Event) calendar.Told { return calendar.Told{Error: e, Events: l} }

// order compares two events by their keys, without package key.
func order(a, b api.Event) int {
	x, y := a.Key, b.Key
	return slices.Compare([]int{x.Time, x.Source, x.Seq}, []int{y.Time, y.Source, y.Seq})
}

// inOrder reports by the document whether a list is in order.
func inOrder(l list) bool {
	for i := range l {
		if i > 0 && order(l[i-1], l[i]) >= 0 {
			return false
		}
	}
	return true
}

// named returns the index of the event with the name of another one, or -1.
func named(l list, x api.Event) int {
	return slices.IndexFunc(l, func(y api.Event) bool { return x.Key.Source == y.Key.Source && x.Key.Seq == y.Key.Seq })
}

// isRight reports by the document whether a calendar is right.
func isRight(l list, capacity int) bool {
	if capacity < 0 || capacity > 256 || len(l) > capacity || !inOrder(l) {
		return false
	}
	for i, x := range l {
		if !evq.Right(x) || named(l[:i], x) >= 0 {
			return false
		}
	}
	return true
}

// model does by the document an act with a calendar that is right: it looks at each event whether it is taken.
func model(l list, capacity int, a calendar.Act) (list, calendar.Told) {
	taken := func(i int) bool { return false }
	switch a.Kind {
	case 1:
		switch {
		case !evq.Right(a.Event):
			return l, tells(evq.ErrEvent)
		case named(l, a.Event) >= 0:
			return l, tells(evq.ErrTwice)
		case len(l) == capacity:
			return l, tells(api.ErrFull)
		}
		all := append(slices.Clone(l), a.Event)
		slices.SortFunc(all, order)
		return all, tells(api.OK)
	case 2:
		taken = func(i int) bool { return i == 0 }
	case 3:
		taken = func(i int) bool { return l[i].Key.Time < a.Time }
	case 4:
		taken = func(i int) bool { return i == named(l, a.Event) }
	case 5:
		taken = func(i int) bool { return true }
	}
	var some, rest list
	for i, x := range l {
		if taken(i) {
			some = append(some, x)
		} else {
			rest = append(rest, x)
		}
	}
	if len(some) == 0 && (a.Kind == 2 || a.Kind == 4) {
		return l, tells(api.ErrNone)
	}
	return rest, tells(api.OK, some...)
}

// sameTold reports whether two acts tell the same.
func sameTold(a, b calendar.Told) bool {
	return a.Error == b.Error && slices.Equal(a.Events, b.Events)
}

// does holds Do against what it has to return.
func does(t *testing.T, l list, capacity int, a calendar.Act, want list, told calendar.Told, error api.Errno) {
	t.Helper()
	if got, x, e := calendar.Do(l, capacity, a); !slices.Equal(got, want) || !sameTold(x, told) || e != error {
		t.Fatalf("Do(%v, %d, %v): %v %v %d, not %v %v %d", l, capacity, a, got, x, e, want, told, error)
	}
}

// plays holds Play against what it has to return.
func plays(t *testing.T, l list, capacity int, acts []calendar.Act, want list, told []calendar.Told, index int, error api.Errno) {
	t.Helper()
	if got, x, i, e := calendar.Play(l, capacity, acts); !slices.Equal(got, want) || !slices.EqualFunc(x, told, sameTold) || i != index || e != error {
		t.Fatalf("Play(%v, %d, %v): %v %v %d %d, not %v %v %d %d", l, capacity, acts, got, x, i, e, want, told, index, error)
	}
}

// queues holds Queue against what it has to return.
func queues(t *testing.T, q *evq.Queue, acts []calendar.Act, told []calendar.Told, index int, error api.Errno) {
	t.Helper()
	if x, i, e := calendar.Queue(q, acts); !slices.EqualFunc(x, told, sameTold) || i != index || e != error {
		t.Fatalf("Queue(%v): %v %d %d, not %v %d %d", acts, x, i, e, told, index, error)
	}
}

// made returns a queue with a capacity and events.
func made(t *testing.T, capacity int, l ...api.Event) *evq.Queue {
	t.Helper()
	q, e := evq.New(capacity)
	if e != api.OK {
		t.Fatal(e)
	}
	if i, e := q.PutAll(l); i != -1 || e != api.OK {
		t.Fatal(i, e)
	}
	return q
}

// equal holds a list of events against what it has to be.
func equal(t *testing.T, what string, l, want list) {
	t.Helper()
	if !slices.Equal(l, want) {
		t.Fatalf("%s: %v, not %v", what, l, want)
	}
}

// calendars are right, with their capacities.
var calendars = []struct {
	l        list
	capacity int
}{
	{nil, 0},
	{list{}, 0},
	{nil, 1},
	{nil, 256},
	{ats([3]int{0, 0, 0}), 1},
	{ats([3]int{1 << 48, 16, huge - 1}), 256},
	{list{at(5, 1, 1, 16)}, 2},
	{ats([3]int{1, 1, 0}, [3]int{1, 1, 1}, [3]int{1, 2, 0}, [3]int{2, 1, 2}), 4},
	{ats([3]int{1, 16, 9}, [3]int{2, 15, 9}, [3]int{3, 16, 8}), 200},
	{many(255), 255},
	{many(255), 256},
	{many(256), 256},
}

// noCalendars are not right.
var noCalendars = []struct {
	l        list
	capacity int
}{
	{nil, -1},
	{nil, 257},
	{nil, least},
	{nil, most},
	{nil, huge},
	{nil, -huge},
	{list{at(5, 1, 1, 16)}, -1},
	{list{at(5, 1, 1, 16)}, 257},
	{list{at(5, 1, 1, 16)}, 0},
	{ats([3]int{1, 1, 1}, [3]int{2, 2, 2}), 1},
	{many(256), 255},
	{many(257), 256},
	{many(257), 257},
	{ats([3]int{-1, 1, 1}), 9},
	{ats([3]int{1<<48 + 1, 1, 1}), 9},
	{ats([3]int{1, -1, 1}), 9},
	{ats([3]int{1, 17, 1}), 9},
	{ats([3]int{1, 1, -1}), 9},
	{ats([3]int{1, 1, huge}), 9},
	{list{at(1, 1, 1, 0)}, 9},
	{list{at(1, 1, 1, 17)}, 9},
	{list{at(1, 1, 1, 1+huge)}, 9},
	{list{{}}, 9},
	{list{at(1, 1, 1, 1), at(2, 1, 2, 1), at(3, 1, 3, -1)}, 9},
	{ats([3]int{2, 1, 1}, [3]int{1, 1, 2}), 9},
	{ats([3]int{2, 2, 1}, [3]int{2, 1, 2}), 9},
	{ats([3]int{2, 1, 2}, [3]int{2, 1, 1}), 9},
	{ats([3]int{1, 1, 1}, [3]int{3, 1, 2}, [3]int{2, 1, 3}, [3]int{4, 1, 4}), 9},
	{ats([3]int{2, 1, 1}, [3]int{2, 1, 1}), 9},
	{ats([3]int{2, 1, 1}, [3]int{3, 1, 1}), 9},
	{ats([3]int{2, 1, 1}, [3]int{3, 1, 2}, [3]int{3, 2, 2}, [3]int{9, 1, 1}), 9},
}

// kinds are acts of each kind.
var kinds = []calendar.Act{put(at(3, 1, 1, 1)), take(), before(3), cancel(1, 1), remove()}

// noKinds returns acts of no kind.
func noKinds() []calendar.Act {
	var l []calendar.Act
	for kind := range 256 {
		if kind < 1 || kind > 5 {
			l = append(l, calendar.Act{Kind: uint8(kind)}, calendar.Act{Kind: uint8(kind), Event: at(1, 1, 1, 1), Time: 5})
		}
	}
	return l
}

func TestConstants(t *testing.T) {
	if calendar.Put != 1 || calendar.Take != 2 || calendar.Before != 3 || calendar.Cancel != 4 || calendar.Clear != 5 {
		t.Error(calendar.Put, calendar.Take, calendar.Before, calendar.Cancel, calendar.Clear)
	}
	if calendar.ErrCalendar != 120 || calendar.ErrAct != 121 {
		t.Error(calendar.ErrCalendar, calendar.ErrAct)
	}
}

// P12.1

func TestRight(t *testing.T) {
	for i, c := range calendars {
		if !calendar.Right(c.l, c.capacity) {
			t.Error(i, c)
		}
	}
	for i, c := range noCalendars {
		if calendar.Right(c.l, c.capacity) {
			t.Error(i, c)
		}
	}
}

func TestRightRandom(t *testing.T) {
	r := rand.New(rand.NewSource(1))
	right := 0
	for range 5000 {
		var l list
		for range r.Intn(5) {
			l = append(l, event(r))
		}
		if r.Intn(4) > 0 {
			slices.SortFunc(l, order)
		}
		capacity := r.Intn(6) - 1
		want := isRight(l, capacity)
		if calendar.Right(l, capacity) != want {
			t.Fatal(l, capacity, want)
		}
		if want {
			right++
		}
	}
	if right < 500 || right > 4500 {
		t.Error(right)
	}
}

func TestDoPut(t *testing.T) {
	a, b, c, d := at(2, 1, 1, 1), at(4, 0, 2, 2), at(4, 1, 0, 3), at(6, 1, 2, 4)
	for i, x := range []struct {
		l        list
		capacity int
		x        api.Event
		want     list
		error    api.Errno
	}{
		{nil, 1, a, list{a}, api.OK},
		{list{b, c, d}, 4, a, list{a, b, c, d}, api.OK},
		{list{a, c, d}, 4, b, list{a, b, c, d}, api.OK},
		{list{a, b, d}, 4, c, list{a, b, c, d}, api.OK},
		{list{a, b, c}, 4, d, list{a, b, c, d}, api.OK},
		{list{a, b, c}, 256, d, list{a, b, c, d}, api.OK},
		{many(255), 256, at(77, 1, 1, 1), slices.Insert(many(255), 231, at(77, 1, 1, 1)), api.OK},
		{many(255), 256, at(0, 3, huge-1, 1), slices.Insert(many(255), 3, at(0, 3, huge-1, 1)), api.OK},
		{nil, 0, a, nil, api.ErrFull},
		{list{a}, 1, b, list{a}, api.ErrFull},
		{many(256), 256, a, many(256), api.ErrFull},
		{list{a, b}, 3, a, list{a, b}, evq.ErrTwice},
		{list{a, b}, 2, b, list{a, b}, evq.ErrTwice}, // before that there is no room
		{list{a, b}, 3, at(9, 0, 2, 9), list{a, b}, evq.ErrTwice},
		{list{a, b}, 3, at(0, 1, 1, 9), list{a, b}, evq.ErrTwice},
		{list{a, b}, 2, at(4, 0, 2, 0), list{a, b}, evq.ErrEvent}, // before that its name is there
		{list{a, b}, 2, at(-1, 1, 1, 1), list{a, b}, evq.ErrEvent},
		{list{a, b}, 3, at(1<<48+1, 1, 9, 1), list{a, b}, evq.ErrEvent},
		{list{a, b}, 3, at(1, 17, 9, 1), list{a, b}, evq.ErrEvent},
		{list{a, b}, 3, at(1, 1, huge, 1), list{a, b}, evq.ErrEvent},
		{list{a, b}, 3, at(1, 1, 9, 17), list{a, b}, evq.ErrEvent},
		{nil, 0, api.Event{}, nil, evq.ErrEvent},
	} {
		t.Log(i)
		does(t, x.l, x.capacity, put(x.x), x.want, tells(x.error), api.OK)
	}
}

func TestDoTake(t *testing.T) {
	a, b, c := at(2, 1, 1, 1), at(4, 0, 2, 2), at(4, 1, 0, 3)
	l := list{a, b, c}
	does(t, l, 3, take(), list{b, c}, tells(api.OK, a), api.OK)
	does(t, list{b, c}, 9, take(), list{c}, tells(api.OK, b), api.OK)
	does(t, list{c}, 1, take(), nil, tells(api.OK, c), api.OK)
	does(t, nil, 1, take(), nil, tells(api.ErrNone), api.OK)
	does(t, list{}, 0, take(), nil, tells(api.ErrNone), api.OK)
	does(t, ats([3]int{0, 0, 0}), 1, take(), nil, tells(api.OK, at(0, 0, 0, 1)), api.OK)
}

func TestDoBefore(t *testing.T) {
	l := list{at(2, 1, 1, 1), at(4, 0, 2, 2), at(4, 1, 0, 3), at(1<<48, 1, 2, 4)}
	for _, x := range []struct{ time, n int }{{least, 0}, {-1, 0}, {0, 0}, {2, 0}, {3, 1}, {4, 1}, {5, 3}, {huge, 3}, {1 << 48, 3}, {1<<48 + 1, 4}, {most, 4}} {
		does(t, l, 4, before(x.time), l[x.n:], tells(api.OK, l[:x.n]...), api.OK)
		does(t, nil, 4, before(x.time), nil, tells(api.OK), api.OK)
	}
	does(t, ats([3]int{0, 0, 0}), 1, before(0), ats([3]int{0, 0, 0}), tells(api.OK), api.OK)
}

func TestDoCancel(t *testing.T) {
	a, b, c, d := at(0, 0, 0, 1), at(2, 1, 1, 1), at(4, 0, 2, 2), at(4, 1, 0, 3)
	l := list{a, b, c, d}
	does(t, l, 4, cancel(0, 0), list{b, c, d}, tells(api.OK, a), api.OK)
	does(t, l, 4, cancel(1, 1), list{a, c, d}, tells(api.OK, b), api.OK)
	does(t, l, 4, cancel(0, 2), list{a, b, d}, tells(api.OK, c), api.OK)
	does(t, l, 4, cancel(1, 0), list{a, b, c}, tells(api.OK, d), api.OK)
	does(t, list{d}, 4, cancel(1, 0), nil, tells(api.OK, d), api.OK)
	for _, x := range [][2]int{{0, 1}, {1, 2}, {2, 0}, {2, 1}, {-1, 0}, {0, -1}, {17, 0}, {huge, 0}, {0, huge}, {1 + huge, 1}, {1, 1 + huge}, {most, least}} {
		does(t, l, 4, cancel(x[0], x[1]), l, tells(api.ErrNone), api.OK)
		does(t, nil, 4, cancel(x[0], x[1]), nil, tells(api.ErrNone), api.OK)
	}
	does(t, nil, 0, cancel(0, 0), nil, tells(api.ErrNone), api.OK)
}

func TestDoClear(t *testing.T) {
	for _, c := range calendars {
		does(t, c.l, c.capacity, remove(), nil, tells(api.OK, c.l...), api.OK)
	}
}

// TestOtherFields holds acts to it that fields do not matter that their kinds do not use.
func TestOtherFields(t *testing.T) {
	a, b, c := at(2, 1, 1, 1), at(4, 0, 2, 2), at(5, 2, 0, 3)
	l := list{a, b}
	for _, x := range []api.Event{{}, b, c, at(-1, 99, -1, 0)} {
		for _, time := range []int{least, -1, 0, 3, 4, most} {
			does(t, l, 3, calendar.Act{Kind: 1, Event: c, Time: time}, list{a, b, c}, tells(api.OK), api.OK)
			does(t, l, 3, calendar.Act{Kind: 2, Event: x, Time: time}, list{b}, tells(api.OK, a), api.OK)
			does(t, l, 3, calendar.Act{Kind: 3, Event: x, Time: 3}, list{b}, tells(api.OK, a), api.OK)
			other := x // of an event that is cancelled, only the name matters
			other.Key.Source, other.Key.Seq = 0, 2
			does(t, l, 3, calendar.Act{Kind: 4, Event: other, Time: time}, list{a}, tells(api.OK, b), api.OK)
			does(t, l, 3, calendar.Act{Kind: 5, Event: x, Time: time}, nil, tells(api.OK, a, b), api.OK)
		}
	}
}

func TestDoWrong(t *testing.T) {
	for _, c := range noCalendars {
		for _, a := range append(noKinds(), kinds...) {
			does(t, c.l, c.capacity, a, nil, tells(api.OK), calendar.ErrCalendar)
		}
	}
	for _, c := range calendars {
		for _, a := range noKinds() {
			does(t, c.l, c.capacity, a, nil, tells(api.OK), calendar.ErrAct)
		}
	}
}

// P12.2

func TestPlay(t *testing.T) {
	a, b, c, d := at(2, 1, 1, 1), at(4, 0, 2, 2), at(4, 1, 0, 3), at(6, 1, 2, 4)
	acts := []calendar.Act{put(c), put(a), put(at(9, 1, 1, 9)), put(b), put(d), before(4), put(d), take(), put(a), cancel(1, 0), cancel(1, 0), remove(), remove(), take(), put(b)}
	told := []calendar.Told{tells(api.OK), tells(api.OK), tells(evq.ErrTwice), tells(api.OK), tells(api.ErrFull), tells(api.OK, a), tells(api.OK), tells(api.OK, b), tells(api.OK), tells(api.OK, c), tells(api.ErrNone), tells(api.OK, a, d), tells(api.OK), tells(api.ErrNone), tells(api.OK)}
	plays(t, nil, 3, acts, list{b}, told, -1, api.OK)
	plays(t, nil, 3, acts[:8], list{c, d}, told[:8], -1, api.OK)
	queues(t, made(t, 3), acts, told, -1, api.OK)
	for _, c := range calendars {
		plays(t, c.l, c.capacity, nil, c.l, nil, -1, api.OK)
		plays(t, c.l, c.capacity, []calendar.Act{}, c.l, nil, -1, api.OK)
	}
}

func TestPlayWrong(t *testing.T) {
	for _, c := range noCalendars {
		plays(t, c.l, c.capacity, nil, nil, nil, -1, calendar.ErrCalendar)
		plays(t, c.l, c.capacity, kinds, nil, nil, -1, calendar.ErrCalendar)
		plays(t, c.l, c.capacity, []calendar.Act{{}, take()}, nil, nil, -1, calendar.ErrCalendar)
	}
	for _, c := range calendars {
		for _, a := range noKinds() {
			plays(t, c.l, c.capacity, []calendar.Act{a}, nil, nil, 0, calendar.ErrAct)
			plays(t, c.l, c.capacity, append(slices.Clone(kinds), a, take(), a), nil, nil, 5, calendar.ErrAct)
			plays(t, c.l, c.capacity, []calendar.Act{take(), a, {}}, nil, nil, 1, calendar.ErrAct)
		}
	}
}

// P12.3

func TestQueue(t *testing.T) {
	a, b, c := at(2, 1, 1, 1), at(4, 0, 2, 2), at(4, 1, 0, 3)
	q := made(t, 2, b)
	queues(t, q, nil, nil, -1, api.OK)
	queues(t, q, []calendar.Act{}, nil, -1, api.OK)
	equal(t, "All", q.All(), list{b})
	queues(t, q, []calendar.Act{put(a)}, []calendar.Told{tells(api.OK)}, -1, api.OK)
	equal(t, "All", q.All(), list{a, b})
	queues(t, q, []calendar.Act{put(c), put(a), put(api.Event{})}, []calendar.Told{tells(api.ErrFull), tells(evq.ErrTwice), tells(evq.ErrEvent)}, -1, api.OK)
	equal(t, "All", q.All(), list{a, b})
	queues(t, q, []calendar.Act{take(), put(c), before(4), before(5)}, []calendar.Told{tells(api.OK, a), tells(api.OK), tells(api.OK), tells(api.OK, b, c)}, -1, api.OK)
	equal(t, "All", q.All(), nil)
	queues(t, q, []calendar.Act{take(), cancel(0, 0), remove(), before(most)}, []calendar.Told{tells(api.ErrNone), tells(api.ErrNone), tells(api.OK), tells(api.OK)}, -1, api.OK)
	queues(t, q, []calendar.Act{put(c), put(b), cancel(1, 0), put(a), remove()}, []calendar.Told{tells(api.OK), tells(api.OK), tells(api.OK, c), tells(api.OK), tells(api.OK, a, b)}, -1, api.OK)
	equal(t, "All", q.All(), nil)
	if q.Room() != 2 {
		t.Error(q.Room())
	}
}

func TestQueueWrong(t *testing.T) {
	l := list{at(2, 1, 1, 1), at(4, 0, 2, 2)}
	q := made(t, 3, l...)
	for _, a := range noKinds() {
		queues(t, q, []calendar.Act{a}, nil, 0, calendar.ErrAct)
		queues(t, q, append(slices.Clone(kinds), a, take(), a), nil, 5, calendar.ErrAct)
		queues(t, q, []calendar.Act{take(), a, {}}, nil, 1, calendar.ErrAct)
		equal(t, "All", q.All(), l) // nothing is done
	}
	if q.Room() != 1 {
		t.Error(q.Room())
	}
}

func TestNoQueue(t *testing.T) {
	for _, q := range []*evq.Queue{nil, new(evq.Queue)} {
		queues(t, q, nil, nil, -1, api.ErrNil)
		queues(t, q, kinds, nil, -1, api.ErrNil)
		queues(t, q, noKinds(), nil, -1, api.ErrNil)
	}
}

// P12.4

// extremes are times that no event has that is right, and some that one has.
var extremes = []int{least, least + 1, -huge, -1, 0, 1, 2, huge - 1, huge, 1 << 48, 1<<48 + 1, most - 1, most}

func TestCount(t *testing.T) {
	l := ats([3]int{1, 0, 0}, [3]int{3, 0, 1}, [3]int{3, 0, 2}, [3]int{3, 1, 0}, [3]int{8, 0, 3})
	for _, x := range [][3]int{{0, 9, 5}, {1, 8, 4}, {1, 3, 1}, {3, 4, 3}, {3, 3, 0}, {4, 8, 0}, {4, 9, 1}, {8, 9, 1}, {9, 99, 0}, {-5, 1, 0}, {8, 1, 0}, {4, 3, 0}, {most, least, 0}, {least, most, 5}} {
		if n, e := calendar.Count(l, x[0], x[1]); n != x[2] || e != api.OK {
			t.Errorf("Count from %d to %d: %d %d, not %d", x[0], x[1], n, e, x[2])
		}
		if n, e := calendar.Count(nil, x[0], x[1]); n != 0 || e != api.OK {
			t.Error(x, n, e)
		}
	}
	for _, to := range extremes {
		for _, from := range extremes {
			var all list
			want := 0
			for i, time := range extremes {
				all = append(all, at(time, 99, i, 0), at(time, 99, i+1, 0))
				if from <= time && time < to {
					want += 2
				}
			}
			if n, e := calendar.Count(all, from, to); n != want || e != api.OK {
				t.Errorf("Count from %d to %d: %d %d, not %d", from, to, n, e, want)
			}
		}
	}
}

func TestTimes(t *testing.T) {
	for i, x := range []struct {
		l    list
		want []int
	}{
		{nil, nil},
		{list{}, nil},
		{ats([3]int{0, 0, 0}), []int{0}},
		{ats([3]int{1, 0, 0}, [3]int{3, 0, 1}, [3]int{3, 0, 2}, [3]int{3, 1, 0}, [3]int{8, 0, 3}), []int{1, 3, 8}},
		{ats([3]int{5, 0, 0}, [3]int{5, 0, 1}, [3]int{5, 9, 0}), []int{5}},
		{ats([3]int{least, 99, 99}, [3]int{-1, 0, 0}, [3]int{0, -5, 0}, [3]int{0, 0, 0}, [3]int{most, 0, 0}), []int{least, -1, 0, most}}, // events that are not right
		{list{{}, at(0, 0, 1, 0)}, []int{0}},
	} {
		if times, e := calendar.Times(x.l); !slices.Equal(times, x.want) || e != api.OK {
			t.Error(i, times, e)
		}
	}
}

func TestLongLists(t *testing.T) {
	l := many(10000) // more than a calendar may have
	if n, e := calendar.Count(l, 10, 3000); n != 3*2990 || e != api.OK {
		t.Error(n, e)
	}
	if times, e := calendar.Times(l); len(times) != 3334 || times[3333] != 3333 || e != api.OK {
		t.Error(len(times), e)
	}
}

func TestNoOrder(t *testing.T) {
	for _, l := range []list{
		ats([3]int{2, 0, 0}, [3]int{1, 0, 1}),
		ats([3]int{2, 1, 0}, [3]int{2, 0, 1}),
		ats([3]int{2, 0, 1}, [3]int{2, 0, 0}),
		ats([3]int{2, 0, 0}, [3]int{2, 0, 0}),
		ats([3]int{1, 0, 0}, [3]int{2, 0, 0}, [3]int{3, 0, 0}, [3]int{3, 0, 0}),
		ats([3]int{1, 0, 0}, [3]int{4, 0, 0}, [3]int{3, 0, 0}, [3]int{5, 0, 0}),
	} {
		for _, x := range [][2]int{{0, 9}, {2, 3}, {5, 5}, {9, 0}, {least, most}, {most, least}} {
			if n, e := calendar.Count(l, x[0], x[1]); n != 0 || e != merge.ErrOrder {
				t.Error(l, x, n, e)
			}
		}
		if times, e := calendar.Times(l); len(times) != 0 || e != merge.ErrOrder {
			t.Error(l, times, e)
		}
	}
}

// P12.5

// event returns an event at random, of few names; one that is not right now and then.
func event(r *rand.Rand) api.Event {
	x := at(r.Intn(8), r.Intn(4), r.Intn(5), 1+r.Intn(16))
	x.Value = r.Int63()
	switch r.Intn(60) {
	case 0, 1:
		x.To = 17 * r.Intn(2)
	case 2:
		x.Key.Time = -1
	case 3:
		x.Key.Source = 17
	}
	return x
}

// act returns an act at random.
func act(r *rand.Rand) calendar.Act {
	a := calendar.Act{Event: event(r), Time: r.Intn(10) - 1}
	switch n := r.Intn(60); {
	case n < 40:
		a.Kind = calendar.Put
	case n < 46:
		a.Kind = calendar.Take
	case n < 51:
		a.Kind = calendar.Before
	case n < 59:
		a.Kind = calendar.Cancel
	default:
		a.Kind = calendar.Clear
	}
	return a
}

// stay holds events to it that they stay if no act takes them, and that none comes that is not put.
func stay(t *testing.T, l, after list, a calendar.Act, told calendar.Told) {
	t.Helper()
	for _, x := range l {
		if slices.Contains(after, x) == slices.Contains(told.Events, x) {
			t.Fatal(l, after, a, told, x)
		}
	}
	for _, x := range after {
		if !slices.Contains(l, x) && (a.Kind != calendar.Put || told.Error != api.OK || x != a.Event) {
			t.Fatal(l, after, a, told, x)
		}
	}
}

func TestRandom(t *testing.T) {
	r := rand.New(rand.NewSource(2))
	for range 300 {
		capacity := r.Intn(14)
		q := made(t, capacity)
		var l, start list
		for range 4 {
			var acts []calendar.Act
			var told []calendar.Told
			for range r.Intn(40) {
				a := act(r)
				want, x := model(l, capacity, a)
				does(t, l, capacity, a, want, x, api.OK)
				stay(t, l, want, a, x)
				if !calendar.Right(want, capacity) {
					t.Fatal(want, capacity)
				}
				acts, told, l = append(acts, a), append(told, x), want
			}
			plays(t, start, capacity, acts, l, told, -1, api.OK)
			queues(t, q, acts, told, -1, api.OK)
			equal(t, "All", q.All(), l)
			start = l
		}
	}
}

func TestRandomFull(t *testing.T) {
	r := rand.New(rand.NewSource(3))
	for range 20 {
		l := many(250)
		q := made(t, 256, l...)
		var acts []calendar.Act
		for range 200 {
			a := act(r)
			a.Event.Key.Seq += 100
			a.Kind = min(a.Kind, calendar.Take)
			acts = append(acts, a)
		}
		want, told := l, []calendar.Told(nil)
		for _, a := range acts {
			var x calendar.Told
			want, x = model(want, 256, a)
			told = append(told, x)
		}
		plays(t, l, 256, acts, want, told, -1, api.OK)
		queues(t, q, acts, told, -1, api.OK)
		equal(t, "All", q.All(), want)
	}
}

// TestArguments holds all functions to it that they do not modify their arguments, nor what is behind those.
func TestArguments(t *testing.T) {
	behind := at(9, 9, 9, 9)
	l := append(list{at(3, 1, 1, 1), at(4, 1, 2, 2), at(5, 1, 3, 1)}, behind, behind)[:3]
	acts := append([]calendar.Act{cancel(1, 2), put(at(1, 1, 9, 1)), put(at(4, 2, 0, 1)), take(), before(4), put(at(0, 0, 0, 1)), put(behind), remove()}, take(), remove())[:8]
	events, all := slices.Clone(l[:5]), slices.Clone(acts[:10])
	same := func() {
		t.Helper()
		equal(t, "events", l[:5], events)
		if !slices.Equal(acts[:10], all) {
			t.Fatal(acts[:10])
		}
	}
	for i := range acts {
		calendar.Right(l, 4)
		calendar.Do(l, 4, acts[i])
		calendar.Play(l, 4, acts[i:])
		calendar.Play(l, 4, acts[:i])
		calendar.Queue(made(t, 4, l...), acts[:i])
		calendar.Count(l, i, 5)
		calendar.Times(l)
		same()
	}
	calendar.Play(l, 1, acts)
	calendar.Play(l, 4, []calendar.Act{{}})
	same()
}

// apart holds lists to it that none of them shares memory with another one, nor with an argument or a queue.
func apart(t *testing.T, lists []list, same func()) {
	t.Helper()
	for i, x := range lists {
		others := slices.Concat(lists[:i], lists[i+1:])
		want := make([]list, len(others))
		for j, y := range others {
			want[j] = slices.Clone(y)
		}
		whole := x[:cap(x)] // with what is behind it
		for j := range whole {
			whole[j] = at(i, 7, 7, 7)
		}
		same()
		for j, y := range others {
			equal(t, "others", y, want[j])
		}
	}
}

// TestMemory holds all results to it that they share no memory with arguments, nor with each other.
func TestMemory(t *testing.T) {
	l := list{at(3, 1, 1, 1), at(4, 1, 2, 2), at(5, 1, 3, 1), at(6, 1, 4, 2)}
	acts := []calendar.Act{before(4), before(0), put(at(5, 0, 0, 1)), cancel(1, 3), put(at(4, 1, 1, 1)), take(), before(5), put(at(7, 7, 7, 7)), before(6), remove(), remove(), put(at(8, 8, 8, 8)), put(at(4, 1, 1, 1))}
	events, all := slices.Clone(l), slices.Clone(acts)
	q := made(t, 6, l...)
	var lists []list
	add := func(l list, told ...calendar.Told) {
		lists = append(lists, l)
		for _, x := range told {
			lists = append(lists, x.Events)
		}
	}
	for n := range len(acts) + 1 {
		after, told, _, e := calendar.Play(l, 6, acts[:n])
		if e != api.OK {
			t.Fatal(e)
		}
		add(after, told...)
	}
	for _, a := range append(acts, remove(), before(most), put(l[0])) {
		after, told, e := calendar.Do(l, 6, a)
		if e != api.OK {
			t.Fatal(e)
		}
		add(after, told)
	}
	told, _, e := calendar.Queue(q, acts)
	if e != api.OK {
		t.Fatal(e)
	}
	add(nil, told...)
	pending := q.All()
	apart(t, lists, func() {
		t.Helper()
		equal(t, "argument", l, events)
		equal(t, "queue", q.All(), pending)
		if !slices.Equal(acts, all) {
			t.Fatal(acts)
		}
	})
}

// Examples

func TestExample(t *testing.T) {
	a, b := at(5, 1, 0, 1), at(3, 2, 0, 1)
	does(t, list{a}, 2, put(b), list{b, a}, tells(api.OK), api.OK)
	does(t, list{b, a}, 2, put(at(9, 3, 3, 1)), list{b, a}, tells(api.ErrFull), api.OK)
	does(t, list{b, a}, 2, before(5), list{a}, tells(api.OK, b), api.OK)
	does(t, list{a}, 2, cancel(1, 0), nil, tells(api.OK, a), api.OK)
	does(t, nil, 2, take(), nil, tells(api.ErrNone), api.OK)
	plays(t, list{a}, 2, []calendar.Act{put(b), put(at(9, 3, 3, 1)), before(5), cancel(1, 0), take()}, nil,
		[]calendar.Told{tells(api.OK), tells(api.ErrFull), tells(api.OK, b), tells(api.OK, a), tells(api.ErrNone)}, -1, api.OK)
	if n, e := calendar.Count(list{b, a}, 3, 5); n != 1 || e != api.OK {
		t.Error(n, e)
	}
	if times, e := calendar.Times(list{b, a}); !slices.Equal(times, []int{3, 5}) || e != api.OK {
		t.Error(times, e)
	}
}
