package slots_test

import (
	"math/rand"
	"slices"
	"testing"

	"fermata/api"
	"fermata/slots"
)

const (
	most  = 1<<63 - 1 // the greatest number
	least = -most - 1 // the least number
	huge  = 1 << 32   // what makes a wrong place look right if it is cut to 32 bits
)

// ref returns a reference.
func ref(place, life int) slots.Ref { return slots.Ref{Place: place, Life: life} }

// model is by the document a table: how many lives it has, the life of each place, whether it is taken, and the free ones in their order.
type model struct {
	lives int
	life  []int
	taken []bool
	free  []int
}

// modelOf returns a model of which all places are free.
func modelOf(places, lives int) *model {
	m := &model{lives: lives, life: make([]int, places), taken: make([]bool, places)}
	for i := range places {
		m.free = append(m.free, i)
	}
	return m
}

// take takes the first free place.
func (m *model) take() (slots.Ref, api.Errno) {
	if len(m.free) == 0 {
		return slots.Ref{}, api.ErrFull
	}
	i := m.free[0]
	m.free = m.free[1:]
	m.life[i]++
	m.taken[i] = true
	return ref(i, m.life[i]), api.OK
}

// live reports whether a reference is live.
func (m *model) live(r slots.Ref) bool {
	return r.Place >= 0 && r.Place < len(m.life) && m.taken[r.Place] && m.life[r.Place] == r.Life
}

// give gives a place back.
func (m *model) give(r slots.Ref) api.Errno {
	if !m.live(r) {
		return slots.ErrStale
	}
	m.taken[r.Place] = false
	if r.Life < m.lives {
		m.free = append([]int{r.Place}, m.free...)
	}
	return api.OK
}

// refs returns the live references.
func (m *model) refs() []slots.Ref {
	var l []slots.Ref
	for i, is := range m.taken {
		if is {
			l = append(l, ref(i, m.life[i]))
		}
	}
	return l
}

// made returns a table of which all places are free.
func made(t *testing.T, places, lives int) *slots.Slots {
	t.Helper()
	s, e := slots.New(places, lives)
	if s == nil || e != api.OK {
		t.Fatalf("New(%d, %d): %v %d", places, lives, s, e)
	}
	return s
}

// take takes a place, which has to be this one.
func take(t *testing.T, s *slots.Slots, want slots.Ref) {
	t.Helper()
	if r, e := s.Take(); r != want || e != api.OK {
		t.Fatalf("Take: %v %d, not %v", r, e, want)
	}
}

// give gives a place back.
func give(t *testing.T, s *slots.Slots, r slots.Ref) {
	t.Helper()
	if e := s.Give(r); e != api.OK {
		t.Fatalf("Give(%v): %d", r, e)
	}
}

// free holds the free places of a table against what they have to be.
func free(t *testing.T, s *slots.Slots, want ...int) {
	t.Helper()
	if l := s.Free(); !slices.Equal(l, want) {
		t.Fatalf("Free: %v, not %v", l, want)
	}
}

// counts holds the counts of a table against what they have to be.
func counts(t *testing.T, s *slots.Slots, taken, free, worn int) {
	t.Helper()
	if x, y, z := s.Counts(); x != taken || y != free || z != worn {
		t.Fatalf("Counts: %d %d %d, not %d %d %d", x, y, z, taken, free, worn)
	}
}

// same holds a table against a model: everything that it tells.
func same(t *testing.T, s *slots.Slots, m *model) {
	t.Helper()
	n := len(m.life)
	free(t, s, m.free...)
	refs := m.refs()
	if l := s.Refs(); !slices.Equal(l, refs) {
		t.Fatalf("Refs: %v, not %v", l, refs)
	}
	counts(t, s, len(refs), len(m.free), n-len(refs)-len(m.free))
	for i := range n {
		if life, is := s.Look(i); life != m.life[i] || is != m.taken[i] {
			t.Fatalf("Look(%d): %d %v, not %d %v", i, life, is, m.life[i], m.taken[i])
		}
		for life := m.life[i] - 2; life <= m.life[i]+2; life++ {
			if r := ref(i, life); s.Live(r) != m.live(r) {
				t.Fatalf("Live(%v): %v", r, s.Live(r))
			}
		}
	}
	for _, i := range []int{least, -huge, -1, n, n + 1, huge, huge + n - 1, most} {
		if life, is := s.Look(i); life != 0 || is {
			t.Fatalf("Look(%d): %d %v", i, life, is)
		}
		if s.Live(ref(i, 0)) || s.Live(ref(i, 1)) {
			t.Fatalf("a reference to %d is live", i)
		}
	}
	var next slots.Ref
	if len(m.free) > 0 {
		next = ref(m.free[0], m.life[m.free[0]]+1)
	}
	if r, is := s.Next(); r != next || is != (len(m.free) > 0) {
		t.Fatalf("Next: %v %v, not %v", r, is, next)
	}
}

// P9.1

func TestConstants(t *testing.T) {
	if slots.MaxPlaces != 1024 || slots.MaxLives != 1<<32 || slots.ErrStale != 90 {
		t.Error(slots.MaxPlaces, slots.MaxLives, slots.ErrStale)
	}
}

func TestNew(t *testing.T) {
	for _, n := range []int{0, 1, 2, 1023, 1024} {
		for _, k := range []int{1, 2, huge - 1, huge} {
			same(t, made(t, n, k), modelOf(n, k))
		}
	}
}

func TestNewWrong(t *testing.T) {
	places := []int{least, -huge, -1, 1025, huge, huge + 1, most}
	lives := []int{least, -huge, -1, 0, huge + 1, most}
	for _, n := range places {
		for _, k := range append(lives, 1, 5, huge) {
			if s, e := slots.New(n, k); s != nil || e != api.ErrArg {
				t.Errorf("New(%d, %d): %v %d", n, k, s, e)
			}
		}
	}
	for _, n := range []int{0, 5, 1024} {
		for _, k := range lives {
			if s, e := slots.New(n, k); s != nil || e != api.ErrArg {
				t.Errorf("New(%d, %d): %v %d", n, k, s, e)
			}
		}
	}
}

// P9.2

func TestTake(t *testing.T) {
	s := made(t, 1024, 1)
	for i := range 1024 {
		take(t, s, ref(i, 1))
	}
	counts(t, s, 1024, 0, 0)
	for range 2 { // nothing changes with an error
		if r, e := s.Take(); r != ref(0, 0) || e != api.ErrFull {
			t.Error(r, e)
		}
		counts(t, s, 1024, 0, 0)
	}
	give(t, s, ref(7, 1)) // which is worn, so that still none is free
	if r, e := s.Take(); r != ref(0, 0) || e != api.ErrFull {
		t.Error(r, e)
	}
	s = made(t, 0, 9)
	if r, e := s.Take(); r != ref(0, 0) || e != api.ErrFull {
		t.Error(r, e)
	}
}

func TestGive(t *testing.T) {
	s := made(t, 5, 3)
	for i := range 4 {
		take(t, s, ref(i, 1))
	}
	give(t, s, ref(1, 1))
	free(t, s, 1, 4)
	give(t, s, ref(3, 1))
	free(t, s, 3, 1, 4)
	give(t, s, ref(0, 1))
	free(t, s, 0, 3, 1, 4)
	take(t, s, ref(0, 2))
	take(t, s, ref(3, 2))
	free(t, s, 1, 4)
	give(t, s, ref(0, 2))
	take(t, s, ref(0, 3))
	give(t, s, ref(0, 3)) // the place 0 is worn
	free(t, s, 1, 4)
	counts(t, s, 2, 2, 1)
	take(t, s, ref(1, 2))
	take(t, s, ref(4, 1))
	if _, e := s.Take(); e != api.ErrFull {
		t.Error(e)
	}
}

func TestGiveWrong(t *testing.T) {
	s, m := made(t, 4, 3), modelOf(4, 3)
	for range 3 {
		s.Take()
		m.take()
	}
	give(t, s, ref(1, 1))
	m.give(ref(1, 1))
	wrong := []slots.Ref{
		ref(0, 0), ref(0, 2), ref(0, -1), ref(0, huge+1), ref(0, most), ref(0, least), // lives that are not
		ref(1, 0), ref(1, 1), ref(1, 2), // of a place that was given back
		ref(3, 0), ref(3, 1), // of one that was never taken
		ref(-1, 1), ref(4, 1), ref(4, 0), ref(huge, 1), ref(-huge, 1), ref(most, 1), ref(least, 1), // of no place
	}
	for _, r := range wrong {
		if e := s.Give(r); e != slots.ErrStale {
			t.Errorf("Give(%v): %d", r, e)
		}
		same(t, s, m)
	}
	give(t, s, ref(2, 1))
	if e := s.Give(ref(2, 1)); e != slots.ErrStale {
		t.Error(e)
	}
	free(t, s, 2, 1, 3)
}

func TestClear(t *testing.T) {
	s := made(t, 5, 2)
	if n, e := s.Clear(); n != 0 || e != api.OK {
		t.Error(n, e)
	}
	free(t, s, 0, 1, 2, 3, 4)
	for i := range 4 {
		take(t, s, ref(i, 1))
	}
	give(t, s, ref(2, 1))
	if n, e := s.Clear(); n != 3 || e != api.OK {
		t.Error(n, e)
	}
	free(t, s, 3, 1, 0, 2, 4)
	counts(t, s, 0, 5, 0)
	take(t, s, ref(3, 2))
	take(t, s, ref(1, 2))
	take(t, s, ref(0, 2))
	take(t, s, ref(2, 2))
	take(t, s, ref(4, 1))
	if n, e := s.Clear(); n != 5 || e != api.OK { // with those that are worn by it
		t.Error(n, e)
	}
	free(t, s, 4)
	counts(t, s, 0, 1, 4)
	if n, e := s.Clear(); n != 0 || e != api.OK {
		t.Error(n, e)
	}
	full := made(t, 1024, 9)
	for i := range 1024 {
		take(t, full, ref(i, 1))
	}
	if n, e := full.Clear(); n != 1024 || e != api.OK {
		t.Error(n, e)
	}
	if l := full.Free(); len(l) != 1024 || l[0] != 1023 || l[1023] != 0 {
		t.Error(l)
	}
}

// P9.3

func TestLook(t *testing.T) {
	s := made(t, 3, 2)
	take(t, s, ref(0, 1))
	give(t, s, ref(0, 1))
	take(t, s, ref(0, 2))
	take(t, s, ref(1, 1))
	give(t, s, ref(0, 2))
	give(t, s, ref(1, 1))
	for i, want := range []int{2, 1, 0} { // a life is returned also of a place that is worn, or free
		if life, is := s.Look(i); life != want || is {
			t.Error(i, life, is)
		}
	}
	take(t, s, ref(1, 2))
	if life, is := s.Look(1); life != 2 || !is {
		t.Error(life, is)
	}
	same(t, s, &model{2, []int{2, 2, 0}, []bool{false, true, false}, []int{2}})
}

func TestNext(t *testing.T) {
	s := made(t, 2, 2)
	for _, want := range []slots.Ref{ref(0, 1), ref(1, 1)} {
		for range 2 { // it takes nothing
			if r, is := s.Next(); r != want || !is {
				t.Error(r, is)
			}
		}
		take(t, s, want)
	}
	if r, is := s.Next(); r != ref(0, 0) || is {
		t.Error(r, is)
	}
	give(t, s, ref(1, 1))
	if r, is := s.Next(); r != ref(1, 2) || !is {
		t.Error(r, is)
	}
	take(t, s, ref(1, 2))
	give(t, s, ref(1, 2))
	if r, is := s.Next(); r != ref(0, 0) || is {
		t.Error(r, is)
	}
}

func TestMemory(t *testing.T) {
	s, m := made(t, 6, 4), modelOf(6, 4)
	for range 3 {
		s.Take()
		m.take()
	}
	clear(s.Free())
	clear(s.Refs())
	_ = append(s.Free(), 9)
	_ = append(s.Refs(), ref(9, 9))
	same(t, s, m)
	l, r := s.Free(), s.Refs()
	s.Clear()
	s.Take()
	if !slices.Equal(l, []int{3, 4, 5}) || !slices.Equal(r, []slots.Ref{ref(0, 1), ref(1, 1), ref(2, 1)}) {
		t.Error(l, r)
	}
}

func TestTwo(t *testing.T) {
	a, b := made(t, 3, 3), made(t, 3, 3)
	a.Take()
	a.Take()
	same(t, b, modelOf(3, 3))
	if b.Give(ref(0, 1)) != slots.ErrStale {
		t.Error("a reference of another table is live")
	}
	same(t, a, &model{3, []int{1, 1, 0}, []bool{true, true, false}, []int{2}})
}

// random does a step at random with a table and its model.
func random(t *testing.T, r *rand.Rand, s *slots.Slots, m *model, old []slots.Ref) []slots.Ref {
	t.Helper()
	switch n := r.Intn(100); {
	case n < 45:
		x, e := s.Take()
		y, f := m.take()
		if x != y || e != f {
			t.Fatalf("Take: %v %d, not %v %d", x, e, y, f)
		}
		return append(old, x)
	case n < 98 && len(old) > 0:
		x := old[r.Intn(len(old))]
		if n < 80 && len(m.refs()) > 0 {
			x = m.refs()[r.Intn(len(m.refs()))]
		}
		if e, f := s.Give(x), m.give(x); e != f {
			t.Fatalf("Give(%v): %d, not %d", x, e, f)
		}
	case n >= 98:
		want := m.refs()
		for _, x := range want {
			m.give(x)
		}
		if n, e := s.Clear(); n != len(want) || e != api.OK {
			t.Fatalf("Clear: %d %d, not %d", n, e, len(want))
		}
	}
	return old
}

func TestRandom(t *testing.T) {
	r := rand.New(rand.NewSource(9))
	for range 150 {
		n, k := r.Intn(9), 1+r.Intn(20)
		s, m := made(t, n, k), modelOf(n, k)
		var old []slots.Ref
		for range 200 {
			old = random(t, r, s, m, old)
			same(t, s, m)
		}
	}
}

// P9.4

func TestLives(t *testing.T) {
	for _, x := range [][2]int{{0, 5}, {1, 1}, {1, 7}, {3, 1}, {4, 5}, {7, 3}} {
		r := rand.New(rand.NewSource(4))
		n, k := x[0], x[1]
		s := made(t, n, k)
		given := map[slots.Ref]bool{}
		count := 0
		for {
			if _, is := s.Next(); !is && len(s.Refs()) == 0 {
				break
			}
			if got, e := s.Take(); e == api.OK {
				count++
				if given[got] {
					t.Fatal("a reference twice", got)
				}
			}
			if l := s.Refs(); len(l) > 0 && (r.Intn(2) == 0 || len(s.Free()) == 0) {
				x := l[r.Intn(len(l))]
				give(t, s, x)
				given[x] = true
			}
			alone(t, s, k)
			for x := range given {
				if s.Live(x) {
					t.Fatal("live again", x)
				}
			}
		}
		if count != n*k || len(given) != n*k {
			t.Errorf("%d places, %d lives: taken %d times", n, k, count)
		}
		counts(t, s, 0, 0, n)
	}
}

// alone looks whether at most one reference to each place is live.
func alone(t *testing.T, s *slots.Slots, lives int) {
	t.Helper()
	taken, free, worn := s.Counts()
	for i := range taken + free + worn {
		live := 0
		for life := range lives + 2 {
			if s.Live(ref(i, life)) {
				live++
			}
		}
		if _, is := s.Look(i); live > 1 || is != (live == 1) {
			t.Fatalf("%d references to %d are live", live, i)
		}
	}
}

// Errors

func TestNoTable(t *testing.T) {
	for _, s := range []*slots.Slots{nil, new(slots.Slots)} {
		for range 2 {
			if r, e := s.Take(); r != ref(0, 0) || e != api.ErrNil {
				t.Error(r, e)
			}
			for _, r := range []slots.Ref{{}, ref(0, 1), ref(-1, 1), ref(most, least)} {
				if e := s.Give(r); e != api.ErrNil {
					t.Error(r, e)
				}
				if life, is := s.Look(r.Place); s.Live(r) || life != 0 || is {
					t.Error(r, life, is)
				}
			}
			if n, e := s.Clear(); n != 0 || e != api.ErrNil {
				t.Error(n, e)
			}
			if r, is := s.Next(); r != ref(0, 0) || is || len(s.Refs()) != 0 || len(s.Free()) != 0 {
				t.Error(r, is)
			}
			counts(t, s, 0, 0, 0)
		}
	}
	if *new(slots.Ref) != ref(0, 0) {
		t.Error("Ref")
	}
}

// Examples

func TestExample(t *testing.T) {
	s := made(t, 3, 2)
	for i := range 3 {
		take(t, s, ref(i, 1))
	}
	if _, e := s.Take(); e != api.ErrFull {
		t.Error(e)
	}
	give(t, s, ref(1, 1))
	give(t, s, ref(0, 1))
	free(t, s, 0, 1)
	take(t, s, ref(0, 2))
	if s.Live(ref(0, 1)) || !s.Live(ref(0, 2)) {
		t.Error("live")
	}
	give(t, s, ref(0, 2))
	counts(t, s, 1, 1, 1)
	take(t, s, ref(1, 2))
	if n, e := s.Clear(); n != 2 || e != api.OK {
		t.Error(n, e)
	}
	free(t, s, 2)
	counts(t, s, 0, 1, 2)
}
