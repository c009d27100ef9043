package merge_test

import (
	"math/rand"
	"slices"
	"testing"

	"fermata/api"
	"fermata/key"
	"fermata/merge"
)

const (
	most  = 1<<63 - 1 // the greatest number
	least = -most - 1 // the least number
	huge  = 1 << 32   // what makes a wrong number look right if it is cut to 32 bits
)

// extremes are numbers that a key can have, though most of them are in none that is right.
var extremes = []int{least, least + 1, -huge, -1, 0, 1, huge - 1, huge, 1 << 48, 1<<48 + 1, most - 1, most}

// list is a list of events.
type list = []api.Event

// at returns an event with a key, for a process.
func at(time, source, seq, to int) api.Event {
	return api.Event{Key: api.Key{Time: time, Source: source, Seq: seq}, To: to, Value: int64(100*time + 10*source + seq)}
}

// ats returns events with keys, for the process 1.
func ats(keys ...[3]int) list {
	var l list
	for _, k := range keys {
		l = append(l, at(k[0], k[1], k[2], 1))
	}
	return l
}

// order compares two events by their keys, without package key.
func order(a, b api.Event) int {
	x, y := a.Key, b.Key
	for _, p := range [][2]int{{x.Time, y.Time}, {x.Source, y.Source}, {x.Seq, y.Seq}} {
		switch {
		case p[0] < p[1]:
			return -1
		case p[0] > p[1]:
			return 1
		}
	}
	return 0
}

// inOrder reports by the document whether a list is in order.
func inOrder(l list) bool {
	for i := range l {
		if i > 0 && order(l[i-1], l[i]) >= 0 {
			return false
		}
	}
	return true
}

// has reports whether a list has an event with the key of another one.
func has(l list, x api.Event) bool {
	return slices.ContainsFunc(l, func(y api.Event) bool { return x.Key == y.Key })
}

// runs returns by the document the runs of a list: all stretches that are in order, and are in no longer one.
func runs(l list) [][2]int {
	var found [][2]int
	for from := range l {
		for to := from + 1; to <= len(l); to++ {
			if inOrder(l[from:to]) && (from == 0 || !inOrder(l[from-1:to])) && (to == len(l) || !inOrder(l[from:to+1])) {
				found = append(found, [2]int{from, to})
			}
		}
	}
	return found
}

// merged returns by the document the merge of lists: it puts each event where it belongs.
func merged(lists []list) (list, int, api.Errno) {
	for i, l := range lists {
		if !inOrder(l) {
			return nil, i, merge.ErrOrder
		}
	}
	var all list
	for i, l := range lists {
		for _, x := range l {
			if has(all, x) {
				return nil, i, merge.ErrTwice
			}
			all = slices.Insert(all, count(all, func(y api.Event) bool { return order(y, x) < 0 }), x)
		}
	}
	return all, -1, api.OK
}

// count returns how many events of a list there are of a sort.
func count(l list, is func(api.Event) bool) int { return len(only(l, is)) }

// only returns the events of a list that are of a sort.
func only(l list, is func(api.Event) bool) list {
	var some list
	for _, x := range l {
		if is(x) {
			some = append(some, x)
		}
	}
	return some
}

// equal holds a list of events against what it has to be.
func equal(t *testing.T, what string, l, want list) {
	t.Helper()
	if !slices.Equal(l, want) {
		t.Fatalf("%s: %v, not %v", what, l, want)
	}
}

// equals holds lists of events against what they have to be.
func equals(t *testing.T, what string, lists, want []list) {
	t.Helper()
	if !slices.EqualFunc(lists, want, func(a, b list) bool { return slices.Equal(a, b) }) {
		t.Fatalf("%s: %v, not %v", what, lists, want)
	}
}

// merges holds the merge of lists against what it has to be.
func merges(t *testing.T, lists []list, want list, index int, error api.Errno) {
	t.Helper()
	if l, i, e := merge.Merge(lists); !slices.Equal(l, want) || i != index || e != error {
		t.Fatalf("Merge(%v): %v %d %d, not %v %d %d", lists, l, i, e, want, index, error)
	}
}

// mergeOf returns the merge of lists, of which there has to be one.
func mergeOf(t *testing.T, lists ...list) list {
	t.Helper()
	l, i, e := merge.Merge(lists)
	if i != -1 || e != api.OK {
		t.Fatalf("Merge(%v): %d %d", lists, i, e)
	}
	return l
}

// cuts holds what is cut of a list against what it has to be.
func cuts(t *testing.T, l list, time int, before, rest list, error api.Errno) {
	t.Helper()
	if a, b, e := merge.Cut(l, time); !slices.Equal(a, before) || !slices.Equal(b, rest) || e != error {
		t.Fatalf("Cut(%v, %d): %v %v %d, not %v %v %d", l, time, a, b, e, before, rest, error)
	}
}

// deals holds what is dealt of a list against what it has to be.
func deals(t *testing.T, l list, n int, want []list, index int, error api.Errno) {
	t.Helper()
	d, i, e := merge.Deal(l, n)
	if i != index || e != error {
		t.Fatalf("Deal(%v, %d): %d %d, not %d %d", l, n, i, e, index, error)
	}
	equals(t, "Deal", d, want)
}

// without holds the rest of a list against what it has to be.
func without(t *testing.T, a, b, want list, error api.Errno) {
	t.Helper()
	if l, e := merge.Without(a, b); !slices.Equal(l, want) || e != error {
		t.Fatalf("Without(%v, %v): %v %d, not %v %d", a, b, l, e, want, error)
	}
}

// leasts holds the index of the list with the least first event against what it has to be.
func leasts(t *testing.T, lists []list, index int, there bool) {
	t.Helper()
	if i, is := merge.Least(lists); i != index || is != there {
		t.Fatalf("Least(%v): %d %v, not %d %v", lists, i, is, index, there)
	}
}

// sorts holds what is sorted of a list against what it has to be.
func sorts(t *testing.T, l, want list, error api.Errno) {
	t.Helper()
	if s, e := merge.Sort(l); !slices.Equal(s, want) || e != error {
		t.Fatalf("Sort(%v): %v %d, not %v %d", l, s, e, want, error)
	}
}

// some returns a random list: its events are for the processes 1 to 4, and few keys are there twice.
func some(r *rand.Rand, n, times int) list {
	var l list
	for range n {
		l = append(l, api.Event{
			Key:   api.Key{Time: r.Intn(times), Source: r.Intn(3), Seq: r.Intn(4)},
			To:    1 + r.Intn(4),
			Value: int64(r.Intn(9)),
		})
	}
	return l
}

// once returns the events of a list in order, of each key the first one.
func once(l list) list {
	var all list
	for _, x := range l {
		if !has(all, x) {
			all = append(all, x)
		}
	}
	slices.SortFunc(all, order)
	return all
}

// ordered returns events with all keys of extreme numbers, in order.
func ordered() list {
	var l list
	for _, time := range extremes {
		for _, source := range extremes {
			for _, seq := range extremes {
				l = append(l, at(time, source, seq, 1))
			}
		}
	}
	return l
}

// shuffled returns the events of a list in a random order.
func shuffled(r *rand.Rand, l list) list {
	other := slices.Clone(l)
	r.Shuffle(len(other), func(i, j int) { other[i], other[j] = other[j], other[i] })
	return other
}

func TestConstants(t *testing.T) {
	if merge.MaxDeal != 16 || key.MaxSource != merge.MaxDeal || merge.ErrOrder != 110 || merge.ErrTwice != 111 || merge.ErrTo != 112 {
		t.Error(merge.MaxDeal, merge.ErrOrder, merge.ErrTwice, merge.ErrTo)
	}
}

// P11.1

func TestSorted(t *testing.T) {
	for i, c := range []struct {
		l    list
		want bool
	}{
		{nil, true},
		{list{}, true},
		{ats([3]int{5, 5, 5}), true},
		{ats([3]int{1, 9, 9}, [3]int{2, 0, 0}), true},
		{ats([3]int{1, 1, 9}, [3]int{1, 2, 0}), true},
		{ats([3]int{1, 1, 1}, [3]int{1, 1, 2}), true},
		{ats([3]int{1, 1, 1}, [3]int{1, 1, 1}), false},
		{ats([3]int{2, 0, 0}, [3]int{1, 9, 9}), false},
		{ats([3]int{1, 2, 0}, [3]int{1, 1, 9}), false},
		{ats([3]int{1, 1, 2}, [3]int{1, 1, 1}), false},
		{ats([3]int{1, 0, 0}, [3]int{2, 0, 0}, [3]int{3, 0, 0}, [3]int{3, 0, 0}), false},
		{ats([3]int{2, 0, 0}, [3]int{1, 0, 0}, [3]int{3, 0, 0}, [3]int{4, 0, 0}), false},
		{ats([3]int{1, 0, 0}, [3]int{3, 0, 0}, [3]int{2, 0, 0}, [3]int{4, 0, 0}), false},
		{ats([3]int{-1, 0, 0}, [3]int{0, 77, -5}), true}, // keys that are not right
		{list{at(1, 1, 1, 5), at(1, 1, 2, 4)}, true},     // only by the key
		{list{at(1, 1, 1, 4), at(1, 1, 1, 5)}, false},
		{ordered(), true},
	} {
		if merge.Sorted(c.l) != c.want {
			t.Error(i, c.l)
		}
	}
}

func TestSortedExtremes(t *testing.T) {
	l := ordered()
	for i := 1; i < len(l); i++ {
		if !merge.Sorted(l[i-1:i+1]) || merge.Sorted(list{l[i], l[i-1]}) || merge.Sorted(list{l[i], l[i]}) {
			t.Fatal(l[i-1 : i+1])
		}
	}
}

func TestSame(t *testing.T) {
	x, y := at(1, 2, 3, 4), at(1, 2, 4, 4)
	for i, c := range []struct {
		a, b list
		want bool
	}{
		{nil, nil, true},
		{nil, list{}, true},
		{list{x}, list{x}, true},
		{list{x, y}, list{x, y}, true},
		{list{y, x, y}, list{y, x, y}, true},
		{nil, list{x}, false},
		{list{x}, list{x, y}, false},
		{list{x, y}, list{y, x}, false},
		{list{x, y}, list{x, x}, false},
		{list{x, y}, list{y, y}, false},
		{nil, list{{}}, false},
	} {
		if merge.Same(c.a, c.b) != c.want || merge.Same(c.b, c.a) != c.want {
			t.Error(i, c.a, c.b)
		}
	}
	for _, change := range []func(*api.Event){
		func(x *api.Event) { x.Key.Time++ },
		func(x *api.Event) { x.Key.Source++ },
		func(x *api.Event) { x.Key.Seq++ },
		func(x *api.Event) { x.To++ },
		func(x *api.Event) { x.Value++ },
		func(x *api.Event) { x.Value += huge },
	} {
		z := x
		change(&z)
		if merge.Same(list{y, x}, list{y, z}) || !merge.Same(list{y, z}, list{y, z}) {
			t.Error(z)
		}
	}
}

func TestRuns(t *testing.T) {
	for i, c := range []struct {
		l    list
		want [][2]int
	}{
		{nil, nil},
		{list{}, nil},
		{ats([3]int{1, 1, 1}), [][2]int{{0, 1}}},
		{ats([3]int{1, 0, 0}, [3]int{2, 0, 0}, [3]int{3, 0, 0}), [][2]int{{0, 3}}},
		{ats([3]int{3, 0, 0}, [3]int{2, 0, 0}, [3]int{1, 0, 0}), [][2]int{{0, 1}, {1, 2}, {2, 3}}},
		{ats([3]int{3, 0, 0}, [3]int{3, 0, 0}), [][2]int{{0, 1}, {1, 2}}},
		{ats([3]int{3, 0, 0}, [3]int{5, 0, 1}, [3]int{5, 0, 0}, [3]int{5, 0, 0}), [][2]int{{0, 2}, {2, 3}, {3, 4}}}, // the chapter's example
		{ats([3]int{4, 0, 0}, [3]int{1, 0, 1}, [3]int{5, 0, 0}, [3]int{6, 0, 0}, [3]int{5, 9, 9}), [][2]int{{0, 1}, {1, 4}, {4, 5}}},
	} {
		if r := merge.Runs(c.l); !slices.Equal(r, c.want) {
			t.Errorf("%d: %v, not %v", i, r, c.want)
		}
	}
	r := rand.New(rand.NewSource(1))
	for range 3000 {
		l := some(r, r.Intn(10), 3)
		if found := merge.Runs(l); !slices.Equal(found, runs(l)) || merge.Sorted(l) != inOrder(l) {
			t.Fatal(l, found, runs(l))
		}
	}
}

// P11.2

func TestSort(t *testing.T) {
	a, b, c, d := at(1, 9, 9, 3), at(2, 0, 7, 1), at(2, 1, 0, 2), at(2, 1, 1, 1)
	for _, l := range []list{{a, b, c, d}, {d, c, b, a}, {b, d, a, c}} {
		sorts(t, l, list{a, b, c, d}, api.OK)
	}
	sorts(t, nil, nil, api.OK)
	sorts(t, list{}, nil, api.OK)
	sorts(t, list{b}, list{b}, api.OK)
	other := b
	other.To, other.Value = 7, 7
	for _, l := range []list{{b, b}, {b, other}, {b, a, b}, {other, d, c, a, b}, {a, b, c, d, d}} {
		sorts(t, l, nil, merge.ErrTwice)
	}
}

func TestSortExtremes(t *testing.T) {
	r := rand.New(rand.NewSource(2))
	l := ordered()
	for range 3 {
		sorts(t, shuffled(r, l), l, api.OK)
	}
	sorts(t, append(shuffled(r, l), l[r.Intn(len(l))]), nil, merge.ErrTwice)
}

func TestSortRandom(t *testing.T) {
	r := rand.New(rand.NewSource(3))
	for range 3000 {
		l := some(r, r.Intn(8), 6)
		want, e := once(l), api.OK
		if len(want) < len(l) {
			want, e = nil, merge.ErrTwice
		}
		sorts(t, l, want, e)
	}
}

func TestMerge(t *testing.T) {
	a, b, c, d := at(1, 1, 0, 3), at(2, 0, 0, 1), at(4, 0, 5, 2), at(4, 1, 1, 9)
	all := list{a, b, c, d}
	merges(t, []list{{a, d}, {b, c}}, all, -1, api.OK) // the chapter's example
	merges(t, nil, nil, -1, api.OK)
	merges(t, []list{}, nil, -1, api.OK)
	merges(t, []list{nil}, nil, -1, api.OK)
	merges(t, []list{nil, {}, nil}, nil, -1, api.OK)
	merges(t, []list{all}, all, -1, api.OK)
	merges(t, []list{nil, all, nil}, all, -1, api.OK)
	merges(t, []list{{a, b}, {c, d}}, all, -1, api.OK)
	merges(t, []list{{c, d}, {a, b}}, all, -1, api.OK)
	merges(t, []list{{d}, {}, {b}, {a}, nil, {c}}, all, -1, api.OK)
	merges(t, []list{{b, c}, {a, d}}, all, -1, api.OK)
	merges(t, []list{{at(-9, 99, 0, 0)}, {at(-9, -99, -1, -1)}}, list{at(-9, -99, -1, -1), at(-9, 99, 0, 0)}, -1, api.OK)
}

func TestMergeWrong(t *testing.T) {
	a, b, c, d := at(1, 1, 0, 3), at(2, 0, 0, 1), at(4, 0, 5, 2), at(4, 1, 1, 9)
	other := d
	other.To, other.Value = 1, 1
	merges(t, []list{{a, d}, {b, c}, {d}}, nil, 2, merge.ErrTwice) // the chapter's example
	merges(t, []list{{a, d}, {b, c}, {other}}, nil, 2, merge.ErrTwice)
	merges(t, []list{{a, d}, {d}, {a}}, nil, 1, merge.ErrTwice)
	merges(t, []list{{a}, nil, {b}, {c}, {b, c, d}, {a}}, nil, 4, merge.ErrTwice)
	merges(t, []list{{a, b, c, d}, {a, b, c, d}}, nil, 1, merge.ErrTwice)
	merges(t, []list{{b, a}}, nil, 0, merge.ErrOrder)
	merges(t, []list{{a, a}}, nil, 0, merge.ErrOrder) // twice in one list
	merges(t, []list{{a}, {c, b}, {d, c}}, nil, 1, merge.ErrOrder)
	merges(t, []list{{a}, {a}, {b, c, d}, {a, b, b}}, nil, 3, merge.ErrOrder) // before what is twice
	merges(t, []list{{a, b, d, c}, {a}}, nil, 0, merge.ErrOrder)
}

func TestMergeRandom(t *testing.T) {
	r := rand.New(rand.NewSource(4))
	for range 5000 {
		var lists []list
		times := 1 + r.Intn(12)
		for range r.Intn(5) {
			l := some(r, r.Intn(5), times)
			if r.Intn(8) > 0 {
				l = once(l)
			}
			lists = append(lists, l)
		}
		want, index, e := merged(lists)
		merges(t, lists, want, index, e)
	}
}

func TestMergeMany(t *testing.T) {
	const n = 100000
	lists := make([]list, n)
	for i := range lists {
		lists[i] = list{at(n-i, 1, i, 1)}
	}
	l := mergeOf(t, lists...)
	if len(l) != n || !merge.Sorted(l) || l[0] != lists[n-1][0] {
		t.Error(len(l))
	}
	l, e := merge.Sort(slices.Concat(lists...))
	if len(l) != n || !merge.Sorted(l) || e != api.OK {
		t.Error(len(l), e)
	}
}

// P11.3

func TestLeast(t *testing.T) {
	a, b, c, d := at(1, 1, 0, 3), at(2, 0, 0, 1), at(2, 0, 5, 2), at(2, 1, 1, 9)
	leasts(t, nil, 0, false)
	leasts(t, []list{}, 0, false)
	leasts(t, []list{nil}, 0, false)
	leasts(t, []list{nil, {}, nil}, 0, false)
	leasts(t, []list{nil, ats([3]int{5, 1, 0}), ats([3]int{5, 0, 9})}, 2, true) // the chapter's example
	leasts(t, []list{{a}}, 0, true)
	leasts(t, []list{{b}, {a}}, 1, true)
	leasts(t, []list{{a}, {b}}, 0, true)
	leasts(t, []list{{c}, {b}, {d}}, 1, true)
	leasts(t, []list{{d}, {c}, {c}, {d}}, 1, true)
	leasts(t, []list{nil, {d, a}, {c, b}, nil}, 2, true) // only by the first events, in order or not
	leasts(t, []list{{c, c}, {c}, {c}}, 0, true)         // the first such list
	leasts(t, []list{nil, nil, {a}, nil, {a}}, 2, true)
	other := a
	other.To, other.Value = least, least
	leasts(t, []list{{a}, {other}}, 0, true) // only by the key
	leasts(t, []list{{other}, {a}}, 0, true)
	leasts(t, []list{{at(most, most, most, 1)}}, 0, true)
	leasts(t, []list{{{}}, {at(-1, 0, 0, 1)}}, 1, true)
}

func TestLeastExtremes(t *testing.T) {
	r := rand.New(rand.NewSource(5))
	for range 20 {
		l := shuffled(r, ordered())
		lists := make([]list, len(l))
		want := 0
		for i, x := range l {
			lists[i] = list{x}
			if order(x, l[want]) < 0 {
				want = i
			}
		}
		leasts(t, lists, want, true)
	}
}

// P11.4

func TestCut(t *testing.T) {
	a, b, c, d := at(1, 0, 0, 3), at(2, 0, 1, 1), at(2, 0, 2, 2), at(5, 1, 1, 9)
	cuts(t, list{a, b, c}, 2, list{a}, list{b, c}, api.OK) // the chapter's example
	l := list{a, b, c, d}
	for _, x := range []struct{ time, n int }{{least, 0}, {-1, 0}, {0, 0}, {1, 0}, {2, 1}, {3, 3}, {4, 3}, {5, 3}, {6, 4}, {huge, 4}, {most, 4}} {
		cuts(t, l, x.time, l[:x.n], l[x.n:], api.OK)
		cuts(t, nil, x.time, nil, nil, api.OK)
		cuts(t, list{}, x.time, nil, nil, api.OK)
		for _, wrong := range []list{{b, a}, {a, a}, {a, b, d, c}, {b, a, c, d}} {
			cuts(t, wrong, x.time, nil, nil, merge.ErrOrder)
		}
	}
}

func TestCutExtremes(t *testing.T) {
	l := ordered()
	for _, time := range extremes {
		before := func(x api.Event) bool { return x.Key.Time < time }
		rest := func(x api.Event) bool { return x.Key.Time >= time }
		cuts(t, l, time, only(l, before), only(l, rest), api.OK)
	}
}

func TestWithout(t *testing.T) {
	a, b, c, d := at(1, 0, 0, 3), at(2, 0, 1, 1), at(2, 0, 2, 2), at(5, 1, 1, 9)
	l := list{a, b, c, d}
	other := c
	other.To, other.Value = 1, 1
	for i, x := range []struct{ a, b, want list }{
		{nil, nil, nil},
		{list{}, nil, nil},
		{l, nil, l},
		{l, list{}, l},
		{nil, l, nil},
		{l, l, nil},
		{l, list{a}, list{b, c, d}},
		{l, list{d}, list{a, b, c}},
		{l, list{b, c}, list{a, d}},
		{l, list{other}, list{a, b, d}}, // only by the key
		{list{other}, list{c}, nil},
		{l, ats([3]int{0, 0, 1}, [3]int{2, 1, 1}, [3]int{9, 0, 0}), l},
		{l, ats([3]int{1, 0, 1}, [3]int{1, 1, 0}, [3]int{2, 0, 0}), l}, // another part of the key
		{list{b}, l, nil},
		{list{{}}, nil, list{{}}},
		{list{{}}, list{{}}, nil},
	} {
		t.Log(i)
		without(t, x.a, x.b, x.want, api.OK)
	}
	for _, wrong := range []list{{b, a}, {a, a}, {a, b, d, c}} {
		for _, right := range []list{nil, {a}, l} {
			without(t, wrong, right, nil, merge.ErrOrder)
			without(t, right, wrong, nil, merge.ErrOrder)
		}
		without(t, wrong, wrong, nil, merge.ErrOrder)
	}
	all := ordered()
	without(t, all, all, nil, api.OK)
	without(t, all, all[1:], all[:1], api.OK)
}

func TestWithoutRandom(t *testing.T) {
	r := rand.New(rand.NewSource(6))
	for range 3000 {
		a, b := once(some(r, r.Intn(9), 2)), once(some(r, r.Intn(9), 2))
		without(t, a, b, only(a, func(x api.Event) bool { return !has(b, x) }), api.OK)
	}
}

// P11.5

func TestDeal(t *testing.T) {
	a, b, c := at(7, 0, 0, 2), at(7, 0, 0, 1), at(3, 0, 0, 2)
	deals(t, list{a, b, c}, 2, []list{{b}, {a, c}}, -1, api.OK) // the chapter's example
	deals(t, list{c, b, a}, 2, []list{{b}, {c, a}}, -1, api.OK)
	deals(t, list{a, a, b, a}, 3, []list{{b}, {a, a, a}, nil}, -1, api.OK) // in order or not
	for n := range 17 {
		deals(t, nil, n, make([]list, n), -1, api.OK)
		deals(t, list{}, n, make([]list, n), -1, api.OK)
	}
	var all list
	want := make([]list, 16)
	for i := range 100 {
		x := at(i*7%10, i, i, 1+i*i%16)
		all = append(all, x)
		want[x.To-1] = append(want[x.To-1], x)
	}
	deals(t, all, 16, want, -1, api.OK)
}

func TestDealWrong(t *testing.T) {
	for _, n := range []int{least, -huge, -16, -1, 17, 18, 256, huge, huge + 1, most} {
		for _, l := range []list{nil, {at(1, 1, 1, 1)}, {at(1, 1, 1, 0)}, {at(1, 1, 1, n)}} {
			deals(t, l, n, nil, -1, api.ErrArg)
		}
	}
	for n := range 17 {
		for _, to := range []int{least, -huge, -n, -1, 0, n + 1, 17, huge, huge + 1, most} {
			bad := at(1, 1, 1, to)
			deals(t, list{bad}, n, nil, 0, merge.ErrTo)
			if n > 0 {
				deals(t, list{at(1, 1, 1, 1), at(1, 1, 0, n), bad, bad}, n, nil, 2, merge.ErrTo)
			}
		}
		if n > 0 {
			deals(t, list{at(1, 1, 1, n)}, n-1, nil, 0, merge.ErrTo)
		}
	}
}

// P11.6

func TestMergeOrder(t *testing.T) {
	r := rand.New(rand.NewSource(7))
	for range 500 {
		all := once(some(r, r.Intn(12), 4))
		lists := make([]list, 5)
		for _, x := range all {
			i := r.Intn(len(lists))
			lists[i] = append(lists[i], x)
		}
		equal(t, "merge", mergeOf(t, lists...), all)
		for range 5 {
			r.Shuffle(len(lists), func(i, j int) { lists[i], lists[j] = lists[j], lists[i] })
			equal(t, "another order", mergeOf(t, lists...), all)
			n := r.Intn(len(lists) + 1)
			equal(t, "some first", mergeOf(t, append([]list{mergeOf(t, lists[:n]...)}, lists[n:]...)...), all)
		}
	}
}

func TestMergeParts(t *testing.T) {
	r := rand.New(rand.NewSource(8))
	for range 500 {
		l := once(some(r, r.Intn(12), 4))
		d, _, e := merge.Deal(l, 4)
		if e != api.OK {
			t.Fatal(e)
		}
		equal(t, "Deal", mergeOf(t, d...), l)
		a, b, e := merge.Cut(l, r.Intn(5))
		if e != api.OK {
			t.Fatal(e)
		}
		equal(t, "Cut", mergeOf(t, a, b), l)
		other := shuffled(r, l)
		var lists []list
		for _, x := range merge.Runs(other) {
			lists = append(lists, other[x[0]:x[1]])
		}
		equal(t, "Runs", mergeOf(t, lists...), l)
		sorts(t, other, l, api.OK)
	}
}

// TestArguments holds all functions to it that they do not modify their arguments, nor what is behind those.
func TestArguments(t *testing.T) {
	behind := at(9, 9, 9, 9)
	a := append(list{at(3, 1, 1, 1), at(4, 1, 1, 2), at(5, 1, 1, 1)}, behind, behind)[:3]
	b := append(list{at(2, 1, 1, 1), at(4, 1, 2, 2)}, behind, behind)[:2]
	c := append(list{at(8, 1, 1, 1), at(7, 1, 2, 2)}, behind, behind)[:2]
	lists := append([]list{a, b}, list{behind}, list{behind})[:2]
	whole := func() list {
		return slices.Concat(a[:5], b[:4], c[:4], lists[:4][0], lists[:4][1], lists[:4][2], lists[:4][3])
	}
	before := whole()
	for _, l := range lists {
		merge.Sort(l)
		merge.Runs(l)
		merge.Cut(l, 4)
		merge.Deal(l, 2)
		merge.Without(l, b)
		merge.Without(a, l)
	}
	merge.Sort(c)
	merge.Merge(lists)
	merge.Merge([]list{a, b, c})
	merge.Merge([]list{a, b, a})
	merge.Least(lists)
	equal(t, "arguments", whole(), before)
}

// TestMemory holds all results to it that they share no memory with arguments, nor with each other.
func TestMemory(t *testing.T) {
	l := list{at(3, 1, 1, 1), at(4, 1, 1, 2), at(5, 1, 1, 1), at(6, 1, 1, 2)}
	before := slices.Clone(l)
	results := []list{mergeOf(t, l), mergeOf(t, nil, l)}
	add := func(some ...list) { results = append(results, some...) }
	for time := 3; time < 8; time++ {
		a, b, _ := merge.Cut(l, time)
		add(a, b)
	}
	for range 2 {
		d, _, _ := merge.Deal(l, 3)
		add(d...)
		s, _ := merge.Sort(l)
		w, _ := merge.Without(l, nil)
		add(s, w)
	}
	for i, x := range results {
		var others []list
		for j, y := range results {
			if i != j {
				others = append(others, slices.Clone(y))
			}
		}
		whole := x[:cap(x)] // with what is behind it
		for j := range whole {
			whole[j] = at(77, 7, 7, 7)
		}
		equal(t, "argument", l, before)
		equals(t, "others", append(slices.Clone(results[:i]), results[i+1:]...), others)
	}
}
