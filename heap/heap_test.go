package heap_test

import (
	"cmp"
	"maps"
	"math/rand"
	"slices"
	"testing"

	"fermata/api"
	"fermata/heap"
)

const (
	most  = 1<<63 - 1 // the greatest number
	least = -most - 1 // the least number
	huge  = 1 << 32   // what makes a wrong place look right if it is cut to 32 bits
)

// at returns a key with a time.
func at(t int) api.Key { return api.Key{Time: t} }

// model is by the document a heap: its capacity, and the keys of its places.
type model struct {
	capacity int
	keys     map[int]api.Key
}

// modelOf returns a model with the places of a list of keys, from 0 on.
func modelOf(capacity int, l ...api.Key) model {
	m := model{capacity, map[int]api.Key{}}
	for place, k := range l {
		m.keys[place] = k
	}
	return m
}

// order compares by the document two places.
func (m model) order(a, b int) int {
	j, k := m.keys[a], m.keys[b]
	return cmp.Or(cmp.Compare(j.Time, k.Time), cmp.Compare(j.Source, k.Source), cmp.Compare(j.Seq, k.Seq), cmp.Compare(a, b))
}

// places returns the places of a model, in their order.
func (m model) places() []int { return slices.SortedFunc(maps.Keys(m.keys), m.order) }

// wrong is by the document the error of what needs a place that is there.
func (m model) wrong(place int) api.Errno {
	if place < 0 || place >= m.capacity {
		return heap.ErrPlace
	}
	if _, is := m.keys[place]; !is {
		return api.ErrNone
	}
	return api.OK
}

// copy returns a model that is the same.
func (m model) copy() model { return model{m.capacity, maps.Clone(m.keys)} }

// made returns a heap without places.
func made(t *testing.T, n int) *heap.Heap {
	t.Helper()
	h, e := heap.New(n)
	if h == nil || e != api.OK {
		t.Fatalf("New(%d): %v %d", n, h, e)
	}
	return h
}

// filled returns a heap with the places of a model, which were put in increasing order.
func filled(t *testing.T, m model) *heap.Heap {
	t.Helper()
	h := made(t, m.capacity)
	for _, place := range slices.Sorted(maps.Keys(m.keys)) {
		put(t, h, m, place, m.keys[place])
	}
	return h
}

// put puts a place into a heap and into its model.
func put(t *testing.T, h *heap.Heap, m model, place int, k api.Key) {
	t.Helper()
	if e := h.Put(place, k); e != api.OK {
		t.Fatalf("Put(%d, %v): %d", place, k, e)
	}
	m.keys[place] = k
}

// remove takes a place out of a heap and out of its model.
func remove(t *testing.T, h *heap.Heap, m model, place int) {
	t.Helper()
	if k, e := h.Remove(place); k != m.keys[place] || e != api.OK {
		t.Fatalf("Remove(%d): %v %d, not %v", place, k, e, m.keys[place])
	}
	delete(m.keys, place)
}

// change gives a place of a heap and of its model another key.
func change(t *testing.T, h *heap.Heap, m model, place int, k api.Key) {
	t.Helper()
	if before, e := h.Change(place, k); before != m.keys[place] || e != api.OK {
		t.Fatalf("Change(%d, %v): %v %d, not %v", place, k, before, e, m.keys[place])
	}
	m.keys[place] = k
}

// take takes the least place out of a heap and out of its model.
func take(t *testing.T, h *heap.Heap, m model) {
	t.Helper()
	want := m.places()[0]
	if place, k, e := h.Take(); place != want || k != m.keys[want] || e != api.OK {
		t.Fatalf("Take: %d %v %d, not %d %v", place, k, e, want, m.keys[want])
	}
	delete(m.keys, want)
}

// isTree holds the tree of a heap against its model.
func isTree(t *testing.T, h *heap.Heap, m model) {
	t.Helper()
	tree := h.Tree()
	if !slices.Equal(slices.Sorted(slices.Values(tree)), slices.Sorted(maps.Keys(m.keys))) {
		t.Fatalf("Tree: %v, of the places %v", tree, m.places())
	}
	for i := 1; i < len(tree); i++ {
		if above := tree[(i-1)/4]; m.order(tree[i], above) < 0 {
			t.Fatalf("Tree: %v: %d comes before %d, which is above it", tree, tree[i], above)
		}
	}
}

// same holds all that a heap tells against its model.
func same(t *testing.T, h *heap.Heap, m model) {
	t.Helper()
	want := m.places()
	if got := h.Order(); !slices.Equal(got, want) {
		t.Fatalf("Order: %v, not %v", got, want)
	}
	if h.Len() != len(want) {
		t.Fatalf("Len: %d, not %d", h.Len(), len(want))
	}
	first := 0
	if len(want) > 0 {
		first = want[0]
	}
	if place, is := h.Least(); place != first || is != (len(want) > 0) {
		t.Fatalf("Least: %d %t, not %d", place, is, first)
	}
	for place := -2; place < m.capacity+2; place++ {
		if k, e := h.Key(place); k != m.keys[place] || e != m.wrong(place) {
			t.Fatalf("Key(%d): %v %d, not %v %d", place, k, e, m.keys[place], m.wrong(place))
		}
		if h.Has(place) != (m.wrong(place) == api.OK) {
			t.Fatalf("Has(%d): %t", place, h.Has(place))
		}
	}
	isTree(t, h, m)
}

// emptied takes all places out of a heap, and holds them against its model.
func emptied(t *testing.T, h *heap.Heap, m model) {
	t.Helper()
	for len(m.keys) > 0 {
		take(t, h, m)
	}
	if place, k, e := h.Take(); place != 0 || k != at(0) || e != api.ErrNone {
		t.Fatalf("Take of no places: %d %v %d", place, k, e)
	}
	same(t, h, m)
}

// someKeys returns keys of which many are the same, or are so but for one field; right ones, and others.
func someKeys() []api.Key {
	var l []api.Key
	for _, time := range []int{least, -1, 0, 1, 7, api.MaxTime, api.MaxTime + 1, most} {
		for _, source := range []int{least, 0, 1, 16, 17, most} {
			for _, seq := range []int{least, -1, 0, 1, huge, most} {
				l = append(l, api.Key{Time: time, Source: source, Seq: seq})
			}
		}
	}
	return l
}

// noPlaces are no places of a heap with a capacity.
func noPlaces(capacity int) []int {
	return []int{-1, -2, -huge, least, capacity, capacity + 1, heap.MaxPlaces, heap.MaxPlaces + 1, huge, huge + 1, most}
}

// reverse returns the times from n - 1 down to 0, as keys.
func reverse(n int) []api.Key {
	var l []api.Key
	for i := range n {
		l = append(l, at(n-1-i))
	}
	return l
}

// orders calls a function with each order of the numbers from 0 to n - 1.
func orders(n int, do func([]int)) {
	l := []int{}
	var add func()
	add = func() {
		if len(l) == n {
			do(l)
		}
		for x := range n {
			if !slices.Contains(l, x) {
				l = append(l, x)
				add()
				l = l[:len(l)-1]
			}
		}
	}
	add()
}

// P8.1

func TestConstants(t *testing.T) {
	if heap.MaxPlaces != 4096 || heap.ErrPlace != 80 || heap.ErrThere != 81 {
		t.Error(heap.MaxPlaces, heap.ErrPlace, heap.ErrThere)
	}
}

func TestNew(t *testing.T) {
	for _, n := range []int{0, 1, 2, 3, 4, 5, 6, 21, 22, 1000, 4095, 4096} {
		h, m := made(t, n), modelOf(n)
		same(t, h, m)
		if e := h.Put(n, at(0)); e != heap.ErrPlace {
			t.Errorf("Put(%d, ..) of %d: %d", n, n, e)
		}
		if n > 0 {
			put(t, h, m, n-1, at(3))
			same(t, h, m)
		}
		emptied(t, h, m)
	}
}

func TestNewOfNoCapacity(t *testing.T) {
	for _, n := range []int{-1, -2, -4096, -huge, least, 4097, 4098, 1 << 16, huge, huge + 1, most} {
		if h, e := heap.New(n); h != nil || e != api.ErrArg {
			t.Errorf("New(%d): %v %d", n, h, e)
		}
	}
}

func TestCopyIsTheSame(t *testing.T) {
	for _, n := range []int{0, 1, 2, 5, 6, 30} {
		for size := range n + 1 {
			m := modelOf(n, reverse(size)...)
			h := filled(t, m)
			c := h.Copy()
			if c == nil || c == h {
				t.Fatal(c, h)
			}
			same(t, c, m)
			if !slices.Equal(c.Tree(), h.Tree()) {
				t.Errorf("the tree of a copy is %v, not %v", c.Tree(), h.Tree())
			}
			same(t, c.Copy(), m)
			emptied(t, c, m.copy())
			same(t, h, m)
			emptied(t, h, m)
		}
	}
}

func TestCopyIsApart(t *testing.T) {
	for _, swapped := range []bool{false, true} {
		m := modelOf(12, reverse(10)...)
		h := filled(t, m)
		left := m.copy()
		c := h.Copy()
		if swapped {
			h, c = c, h
		}
		put(t, c, m, 11, at(-1))
		same(t, h, left)
		change(t, c, m, 3, at(-5))
		same(t, h, left)
		remove(t, c, m, 7)
		same(t, h, left)
		take(t, c, m)
		same(t, h, left)
		put(t, h, left, 10, at(4))
		change(t, h, left, 0, at(-9))
		remove(t, h, left, 1)
		same(t, c, m)
		emptied(t, h, left)
		same(t, c, m)
		emptied(t, c, m)
	}
}

// P8.2

func TestPutByHand(t *testing.T) {
	h := made(t, 6)
	for _, c := range []struct {
		place int
		k     api.Key
		e     api.Errno
		order []int
	}{
		{3, at(7), api.OK, []int{3}},
		{5, api.Key{Time: 7, Seq: -1}, api.OK, []int{5, 3}},
		{3, at(1), heap.ErrThere, []int{5, 3}},
		{0, api.Key{Time: 7, Source: 1}, api.OK, []int{5, 3, 0}},
		{6, at(1), heap.ErrPlace, []int{5, 3, 0}},
		{2, api.Key{Time: 7, Source: 1}, api.OK, []int{5, 3, 0, 2}},
		{1, api.Key{Time: 7, Source: 1}, api.OK, []int{5, 3, 0, 1, 2}},
		{-1, at(1), heap.ErrPlace, []int{5, 3, 0, 1, 2}},
		{4, api.Key{Time: -9, Source: 99, Seq: most}, api.OK, []int{4, 5, 3, 0, 1, 2}},
	} {
		if e := h.Put(c.place, c.k); e != c.e || !slices.Equal(h.Order(), c.order) {
			t.Errorf("Put(%d, %v): %d, then %v", c.place, c.k, e, h.Order())
		}
	}
}

func TestPutInEachOrder(t *testing.T) {
	for n := range 8 {
		orders(n, func(l []int) {
			h, m := made(t, n), modelOf(n)
			for place, time := range l {
				put(t, h, m, place, at(time))
			}
			same(t, h, m)
			emptied(t, h, m)
		})
	}
}

func TestPutOfTheSameKeyInEachOrder(t *testing.T) {
	for n := range 7 {
		orders(n, func(l []int) {
			h, m := made(t, n), modelOf(n)
			for _, place := range l {
				put(t, h, m, place, api.Key{Time: 5, Source: 1, Seq: 2})
			}
			same(t, h, m)
			for place := range n {
				take(t, h, m)
				if h.Has(place) {
					t.Fatalf("%d is there, of %v", place, h.Order())
				}
			}
		})
	}
}

func TestPutOfWhatIsThere(t *testing.T) {
	for _, n := range []int{1, 2, 5, 6, 30} {
		m := modelOf(n, reverse(n)...)
		h := filled(t, m)
		for place := range n {
			for _, k := range []api.Key{at(-1), at(n), m.keys[place]} {
				if e := h.Put(place, k); e != heap.ErrThere {
					t.Errorf("Put(%d, %v): %d", place, k, e)
				}
			}
		}
		same(t, h, m)
	}
}

func TestPutOfNoPlace(t *testing.T) {
	for _, n := range []int{0, 1, 5, 30} {
		for size := range n + 1 {
			m := modelOf(n, reverse(size)...)
			h := filled(t, m)
			for _, place := range noPlaces(n) {
				if e := h.Put(place, at(-1)); e != heap.ErrPlace {
					t.Errorf("Put(%d, ..) of %d: %d", place, n, e)
				}
			}
			same(t, h, m)
		}
	}
}

func TestRemoveEach(t *testing.T) {
	for _, n := range []int{1, 2, 3, 5, 6, 10, 21, 22, 40} {
		for place := range n {
			for _, l := range [][]api.Key{reverse(n), slices.Repeat([]api.Key{at(5)}, n)} {
				m := modelOf(n, l...)
				h := filled(t, m)
				remove(t, h, m, place)
				same(t, h, m)
				if k, e := h.Remove(place); k != at(0) || e != api.ErrNone {
					t.Errorf("Remove(%d) twice: %v %d", place, k, e)
				}
				same(t, h, m)
				put(t, h, m, place, at(-3))
				same(t, h, m)
				emptied(t, h, m)
			}
		}
	}
}

// What is last in the tree comes from below another index, and is less than what is above where it is put.
func TestRemoveLetsTheLastOneRise(t *testing.T) {
	times := []int{0, 100, 1, 50, 51, 101, 102, 103, 104, 2}
	for place := range times {
		m := modelOf(len(times))
		h := made(t, len(times))
		for i, time := range times {
			put(t, h, m, i, at(time))
		}
		remove(t, h, m, place)
		same(t, h, m)
		emptied(t, h, m)
	}
}

func TestChangeEachToEach(t *testing.T) {
	for _, n := range []int{1, 2, 5, 6, 10, 22} {
		for place := range n {
			for time := -1; time <= 2*n; time++ {
				m := modelOf(n)
				for i := range n {
					m.keys[i] = at(2 * (i * 7 % n))
				}
				h := filled(t, m)
				change(t, h, m, place, at(time))
				same(t, h, m)
				change(t, h, m, place, at(time))
				same(t, h, m)
				emptied(t, h, m)
			}
		}
	}
}

func TestChangeBySourceOrBySeqAlone(t *testing.T) {
	m := modelOf(3, api.Key{Time: 5, Source: 2, Seq: 7}, api.Key{Time: 5, Source: 2, Seq: 8}, api.Key{Time: 5, Source: 3, Seq: 1})
	h := filled(t, m)
	for _, c := range []struct {
		place int
		k     api.Key
		order []int
	}{
		{0, api.Key{Time: 5, Source: 2, Seq: 8}, []int{0, 1, 2}},
		{0, api.Key{Time: 5, Source: 2, Seq: 9}, []int{1, 0, 2}},
		{1, api.Key{Time: 5, Source: 3, Seq: 1}, []int{0, 1, 2}},
		{1, api.Key{Time: 5, Source: 3, Seq: 2}, []int{0, 2, 1}},
		{2, api.Key{Time: 5, Source: 1, Seq: most}, []int{2, 0, 1}},
		{2, api.Key{Time: 6, Source: least, Seq: least}, []int{0, 1, 2}},
	} {
		change(t, h, m, c.place, c.k)
		same(t, h, m)
		if got := h.Order(); !slices.Equal(got, c.order) {
			t.Errorf("%d has %v: %v", c.place, c.k, got)
		}
	}
}

func TestRemoveChangeAndKeyOfNoPlace(t *testing.T) {
	for _, n := range []int{0, 1, 5, 30} {
		for size := range n + 1 {
			m := modelOf(n, reverse(size)...)
			h := filled(t, m)
			for _, place := range append(noPlaces(n), size, n-1) {
				want := m.wrong(place)
				if want == api.OK {
					continue
				}
				if k, e := h.Remove(place); k != at(0) || e != want {
					t.Errorf("Remove(%d) of %d: %v %d", place, n, k, e)
				}
				if k, e := h.Change(place, at(-1)); k != at(0) || e != want {
					t.Errorf("Change(%d, ..) of %d: %v %d", place, n, k, e)
				}
				if k, e := h.Key(place); k != at(0) || e != want {
					t.Errorf("Key(%d) of %d: %v %d", place, n, k, e)
				}
				if h.Has(place) {
					t.Errorf("Has(%d) of %d", place, n)
				}
			}
			same(t, h, m)
		}
	}
}

func TestAnyKeys(t *testing.T) {
	l := someKeys()
	rand.New(rand.NewSource(1)).Shuffle(len(l), func(i, j int) { l[i], l[j] = l[j], l[i] })
	m := modelOf(len(l), l...)
	h := filled(t, m)
	same(t, h, m)
	for place := 0; place < len(l); place += 3 {
		change(t, h, m, place, l[len(l)-1-place])
	}
	same(t, h, m)
	emptied(t, h, m)
}

// P8.3

func TestLeastAndTakeByHand(t *testing.T) {
	h, m := made(t, 5), modelOf(5)
	for _, c := range []struct{ place, time, least int }{{3, 7, 3}, {1, 5, 1}, {4, 5, 1}, {0, 9, 1}, {2, 4, 2}} {
		put(t, h, m, c.place, at(c.time))
		for range 2 {
			if place, is := h.Least(); place != c.least || !is || h.Len() != len(m.keys) {
				t.Errorf("Least: %d %t of %d", place, is, h.Len())
			}
		}
	}
	for left, c := range []struct{ place, time int }{{2, 4}, {1, 5}, {4, 5}, {3, 7}, {0, 9}} {
		if place, k, e := h.Take(); place != c.place || k != at(c.time) || e != api.OK || h.Has(place) || h.Len() != 4-left {
			t.Errorf("Take: %d %v %d, of %d", place, k, e, h.Len())
		}
	}
	for range 2 {
		if place, is := h.Least(); place != 0 || is {
			t.Error(place, is)
		}
		if place, k, e := h.Take(); place != 0 || k != at(0) || e != api.ErrNone {
			t.Error(place, k, e)
		}
	}
}

func TestAnEmptiedHeapIsFilledAgain(t *testing.T) {
	h, m := made(t, 30), modelOf(30)
	for round := range 20 {
		for place := range 30 {
			put(t, h, m, place, at((place*7+round*11)%13))
		}
		same(t, h, m)
		for place := range 30 * (round % 2) {
			remove(t, h, m, (place*7+round)%30)
		}
		emptied(t, h, m)
	}
}

func TestTheGreatestHeap(t *testing.T) {
	m := modelOf(heap.MaxPlaces, reverse(heap.MaxPlaces)...)
	h := filled(t, m)
	same(t, h, m)
	for place := 0; place < heap.MaxPlaces; place += 2 {
		change(t, h, m, place, at(place%97))
	}
	for place := 0; place < heap.MaxPlaces; place += 5 {
		remove(t, h, m, place)
	}
	same(t, h, m)
	for _, want := range h.Order() {
		if place, k, e := h.Take(); place != want || k != m.keys[place] || e != api.OK {
			t.Fatalf("Take: %d %v %d, not %d", place, k, e, want)
		}
	}
}

// P8.4

func TestOrderAndTreeChangeNothing(t *testing.T) {
	for size := range 31 {
		m := modelOf(30, reverse(size)...)
		h := filled(t, m)
		order, tree := h.Order(), h.Tree()
		if len(order) != len(m.keys) || len(tree) != len(m.keys) {
			t.Fatal(order, tree)
		}
		for range 3 {
			if !slices.Equal(h.Order(), order) || !slices.Equal(h.Tree(), tree) {
				t.Fatal(h.Order(), h.Tree())
			}
		}
		same(t, h, m)
		emptied(t, h, m)
	}
}

func TestOrderAndTreeShareNoMemory(t *testing.T) {
	m := modelOf(30, reverse(25)...)
	h := filled(t, m)
	order, tree := h.Order(), h.Tree()
	for _, l := range [][]int{order, tree} {
		for i := range l[:cap(l)] {
			l[:cap(l)][i] = 99
		}
		same(t, h, m)
	}
	order, tree = h.Order(), h.Tree()
	order[0] = 77
	if tree[0] == 77 {
		t.Error("Order and Tree share memory")
	}
	heldOrder, heldTree := slices.Clone(order), slices.Clone(tree)
	emptied(t, h, m)
	if !slices.Equal(order, heldOrder) || !slices.Equal(tree, heldTree) {
		t.Error("what Order and Tree returned is changed by Take")
	}
}

// P8.5

// work does one of the calls that change a heap, at random, also such that are refused, and holds it against the model.
func work(t *testing.T, r *rand.Rand, h *heap.Heap, m model, keys []api.Key) {
	t.Helper()
	place, k := r.Intn(m.capacity+2)-1, keys[r.Intn(len(keys))]
	wrong := m.wrong(place)
	switch call := r.Intn(7); {
	case call < 3 && wrong == api.ErrNone:
		put(t, h, m, place, k)
	case call < 3:
		want := wrong
		if want == api.OK {
			want = heap.ErrThere
		}
		if e := h.Put(place, k); e != want {
			t.Fatalf("Put(%d, %v): %d, not %d", place, k, e, want)
		}
	case call == 3 && len(m.keys) > 0:
		take(t, h, m)
	case call == 4 && wrong == api.OK:
		remove(t, h, m, place)
	case call == 4:
		if k, e := h.Remove(place); k != at(0) || e != wrong {
			t.Fatalf("Remove(%d): %v %d, not %d", place, k, e, wrong)
		}
	case wrong == api.OK:
		change(t, h, m, place, k)
	default:
		if k, e := h.Change(place, k); k != at(0) || e != wrong {
			t.Fatalf("Change(%d, ..): %v %d, not %d", place, k, e, wrong)
		}
	}
}

func TestCallsOfAllKinds(t *testing.T) {
	r := rand.New(rand.NewSource(8))
	for _, n := range []int{1, 2, 4, 5, 6, 9, 22, 60} {
		for _, keys := range [][]api.Key{someKeys(), reverse(1), reverse(5), reverse(1000)} {
			h, m := made(t, n), modelOf(n)
			for range 400 {
				work(t, r, h, m, keys)
				same(t, h, m)
			}
			emptied(t, h, m)
		}
	}
}

func TestHeapsWithTheSamePlacesAndKeysGiveTheSame(t *testing.T) {
	r := rand.New(rand.NewSource(9))
	keys := reverse(20)
	for range 60 {
		worked, m := made(t, 40), modelOf(40)
		for range 300 {
			work(t, r, worked, m, keys)
		}
		backwards := made(t, 40)
		for _, place := range slices.Backward(slices.Sorted(maps.Keys(m.keys))) {
			put(t, backwards, m, place, m.keys[place])
		}
		changed := made(t, 40)
		for place := range 40 {
			changed.Put(place, at(-place))
		}
		for place := range 40 {
			if m.wrong(place) == api.OK {
				changed.Change(place, m.keys[place])
			} else {
				changed.Remove(place)
			}
		}
		seed := r.Int63()
		for _, h := range []*heap.Heap{worked, backwards, changed, filled(t, m), worked.Copy()} {
			same(t, h, m)
			then, again := m.copy(), rand.New(rand.NewSource(seed))
			for range 30 {
				work(t, again, h, then, keys)
			}
			same(t, h, then)
			emptied(t, h, then)
		}
	}
}

func TestHeapsAreApart(t *testing.T) {
	a, b, am, bm := made(t, 10), made(t, 20), modelOf(10), modelOf(20)
	for place := range 10 {
		put(t, a, am, place, at(place))
		put(t, b, bm, place+10, at(-place))
	}
	same(t, a, am)
	same(t, b, bm)
	change(t, a, am, 3, at(30))
	remove(t, b, bm, 13)
	take(t, a, am)
	same(t, b, bm)
	emptied(t, b, bm)
	same(t, a, am)
}

// No heaps

func TestNoHeaps(t *testing.T) {
	for i, h := range []*heap.Heap{nil, {}, new(heap.Heap)} {
		for range 2 {
			for _, place := range []int{0, 1, -1, heap.MaxPlaces, most, least} {
				if e := h.Put(place, at(1)); e != api.ErrNil {
					t.Errorf("%d: Put(%d, ..): %d", i, place, e)
				}
				if k, e := h.Remove(place); k != at(0) || e != api.ErrNil {
					t.Errorf("%d: Remove(%d): %v %d", i, place, k, e)
				}
				if k, e := h.Change(place, at(1)); k != at(0) || e != api.ErrNil {
					t.Errorf("%d: Change(%d, ..): %v %d", i, place, k, e)
				}
				if k, e := h.Key(place); k != at(0) || e != api.ErrNil {
					t.Errorf("%d: Key(%d): %v %d", i, place, k, e)
				}
				if h.Has(place) {
					t.Errorf("%d: Has(%d)", i, place)
				}
			}
			if place, k, e := h.Take(); place != 0 || k != at(0) || e != api.ErrNil {
				t.Errorf("%d: Take: %d %v %d", i, place, k, e)
			}
			if place, is := h.Least(); place != 0 || is {
				t.Errorf("%d: Least: %d", i, place)
			}
			if h.Len() != 0 || len(h.Order()) != 0 || len(h.Tree()) != 0 {
				t.Errorf("%d: %d %v %v", i, h.Len(), h.Order(), h.Tree())
			}
			if c := h.Copy(); c != nil {
				t.Errorf("%d: Copy: %v", i, c)
			}
		}
	}
}

// The chapter's examples

func TestExamples(t *testing.T) {
	h := made(t, 5)
	for _, c := range []struct{ place, time int }{{3, 7}, {1, 5}, {4, 5}, {0, 9}} {
		if e := h.Put(c.place, at(c.time)); e != api.OK {
			t.Errorf("Put(%d, %d): %d", c.place, c.time, e)
		}
	}
	if place, is := h.Least(); place != 1 || !is || !slices.Equal(h.Order(), []int{1, 4, 3, 0}) {
		t.Error(place, is, h.Order())
	}
	if k, e := h.Change(0, at(1)); k != at(9) || e != api.OK {
		t.Error(k, e)
	}
	if place, k, e := h.Take(); place != 0 || k != at(1) || e != api.OK {
		t.Error(place, k, e)
	}
	if k, e := h.Remove(4); k != at(5) || e != api.OK {
		t.Error(k, e)
	}
	for _, c := range []struct {
		place, time int
		e           api.Errno
	}{{1, 5, api.OK}, {3, 7, api.OK}, {0, 0, api.ErrNone}} {
		if place, k, e := h.Take(); place != c.place || k != at(c.time) || e != c.e {
			t.Error(place, k, e)
		}
	}
	if e := h.Put(5, at(1)); e != heap.ErrPlace {
		t.Error(e)
	}
}
