package slots

import (
	"math"
	"slices"
	"testing"
)

const (
	greatest = 1 << 20   // the most slots that may be, told here by its number: the package's own could be wrong
	lastGen  = 1<<20 - 2 // the greatest generation for which something is promised
	never    = -1        // when a place was closed that was never open
)

// spot is what one slot has to be: is it open, its generation, and when it was closed last.
type spot struct {
	open   bool
	gen    int
	closed int
}

// plain is what slots have to be, and how many times one was closed.
type plain struct {
	spots  []spot
	closes int
}

func none(n int) *plain {
	return &plain{spots: slices.Repeat([]spot{{closed: never}}, n)}
}

func (p *plain) copied() *plain {
	return &plain{spots: slices.Clone(p.spots), closes: p.closes}
}

// next is the place to be opened next: of those that are not open the one that was closed last, the least one of those that never were; -1, if all are open.
func (p *plain) next() int {
	best := -1
	for place, s := range p.spots {
		if !s.open && (best < 0 || s.closed > p.spots[best].closed) {
			best = place
		}
	}
	return best
}

func (p *plain) opened() (int, int, bool) {
	place := p.next()
	if place < 0 {
		return 0, 0, false
	}
	p.spots[place].open = true
	return place, p.spots[place].gen, true
}

func (p *plain) right(place, gen int) bool {
	return place >= 0 && place < len(p.spots) && p.spots[place].open && p.spots[place].gen == gen
}

func (p *plain) shut(place, gen int) bool {
	if !p.right(place, gen) {
		return false
	}
	p.closes++
	p.spots[place] = spot{gen: gen + 1, closed: p.closes}
	return true
}

// places are those that are open, rising.
func (p *plain) places() []int {
	var list []int
	for place, s := range p.spots {
		if s.open {
			list = append(list, place)
		}
	}
	return list
}

// gen is the generation of the place; -1, if there is no such place.
func (p *plain) gen(place int) int {
	if place < 0 || place >= len(p.spots) {
		return -1
	}
	return p.spots[place].gen
}

func same[T comparable](t *testing.T, what string, got, want T) {
	t.Helper()
	if got != want {
		t.Errorf("%s: %v, want %v", what, got, want)
	}
}

func sameList(t *testing.T, what string, got, want []int) {
	t.Helper()
	if !slices.Equal(got, want) {
		t.Errorf("%s: %v, want %v", what, got, want)
	}
}

// opens holds an Open against the place and the generation that it has to tell.
func opens(t *testing.T, what string, s *Slots, place, gen int) {
	t.Helper()
	got, of, ok := s.Open()
	if got != place || of != gen || !ok {
		t.Errorf("%s: Open: %d %d %v, want %d %d true", what, got, of, ok, place, gen)
	}
}

// opensNone holds an Open against none.
func opensNone(t *testing.T, what string, s *Slots) {
	t.Helper()
	place, gen, ok := s.Open()
	if place != 0 || gen != 0 || ok {
		t.Errorf("%s: Open: %d %d %v, want 0 0 false", what, place, gen, ok)
	}
}

// open does an Open to slots and to what they have to be, and holds both answers against each other.
func open(t *testing.T, what string, s *Slots, want *plain) {
	t.Helper()
	place, gen, ok := want.opened()
	if !ok {
		opensNone(t, what, s)
		return
	}
	opens(t, what, s, place, gen)
}

// shut does a Close to slots and to what they have to be, and holds both answers against each other.
func shut(t *testing.T, what string, s *Slots, want *plain, place, gen int) {
	t.Helper()
	if got, may := s.Close(place, gen), want.shut(place, gen); got != may {
		t.Errorf("%s: Close(%d, %d): %v, want %v", what, place, gen, got, may)
	}
}

// beyond are places that are not among so many.
func beyond(n int) []int {
	return []int{-1, -2, -n, -n - 1, -greatest, math.MinInt, math.MinInt + 1, n, n + 1, 2*n + 1, n + greatest, 1 << 40, math.MaxInt - 1, math.MaxInt}
}

// wrongGens are generations that no place of these tests comes to.
func wrongGens() []int {
	return []int{-1, -2, math.MinInt, math.MinInt + 1, 1000, 1 << 20, 1 << 32, 1 << 40, math.MaxInt - 1, math.MaxInt}
}

// checkPlace holds what is told of one place against what it has to be.
func checkPlace(t *testing.T, what string, s *Slots, want *plain, place int) {
	t.Helper()
	gen := want.gen(place)
	if got := s.Gen(place); got != gen {
		t.Errorf("%s: Gen(%d): %d, want %d", what, place, got, gen)
	}
	for _, g := range []int{gen - 2, gen - 1, gen, gen + 1, gen + 2, -gen} {
		if got, is := s.Right(place, g), want.right(place, g); got != is {
			t.Errorf("%s: Right(%d, %d): %v, want %v", what, place, g, got, is)
		}
	}
}

// checkSlots holds slots against what they have to be, by each call that tells it.
func checkSlots(t *testing.T, what string, s *Slots, want *plain) {
	t.Helper()
	places := want.places()
	same(t, what+": Len", s.Len(), len(places))
	sameList(t, what+": Places", s.Places(), places)
	for place := -1; place <= len(want.spots); place++ {
		checkPlace(t, what, s, want, place)
	}
}

// checkBeyond asks slots for places that are not there, and for generations that no place has.
func checkBeyond(t *testing.T, what string, s *Slots, want *plain) {
	t.Helper()
	for _, place := range beyond(len(want.spots)) {
		checkPlace(t, what, s, want, place)
		for _, gen := range wrongGens() {
			same(t, what+": Right of what is not there", s.Right(place, gen), false)
		}
	}
	for place := range want.spots {
		for _, gen := range wrongGens() {
			same(t, what+": Right of no generation", s.Right(place, gen), false)
		}
	}
}

// made are n slots, none open.
func made(t *testing.T, n int) *Slots {
	t.Helper()
	s := New(n)
	if s == nil {
		t.Fatalf("New(%d) is nil", n)
	}
	return s
}

// full are n slots, all open, each once.
func full(t *testing.T, n int) (*Slots, *plain) {
	t.Helper()
	s, want := made(t, n), none(n)
	for range n {
		open(t, "Open of all", s, want)
	}
	return s, want
}

// sizes are numbers of slots: none, one, and several.
func sizes() []int {
	return []int{0, 1, 2, 3, 5, 8, 13, 64, 100}
}

// orders are all orders of the numbers from 0 to below n.
func orders(n int) [][]int {
	all := [][]int{nil}
	for x := range n {
		var longer [][]int
		for _, order := range all {
			for at := range len(order) + 1 {
				longer = append(longer, slices.Insert(slices.Clone(order), at, x))
			}
		}
		all = longer
	}
	return all
}

// Promise 6.1: as many slots as are asked for, none open, each with the generation 0.
func TestNewIsOfNoneOpen(t *testing.T) {
	for _, n := range sizes() {
		s, want := made(t, n), none(n)
		checkSlots(t, "new slots", s, want)
		checkBeyond(t, "new slots", s, want)
		for place := -1; place <= n; place++ {
			same(t, "Close of what was never open", s.Close(place, 0), false)
			same(t, "Right of what was never open", s.Right(place, 0), false)
		}
		checkSlots(t, "behind wrong calls", s, want)
		open(t, "behind wrong calls", s, want)
		checkSlots(t, "behind Open", s, want)
	}
}

// Promise 6.1: as many as may be, and no more; not below 0.
func TestNewOfWrongSizes(t *testing.T) {
	for _, n := range []int{0, 1, 2, 64, 4096, greatest - 1, greatest} {
		s := made(t, n)
		same(t, "Len", s.Len(), 0)
		same(t, "Gen of the last one", s.Gen(n-1), min(n, 1)-1)
		same(t, "Gen beyond", s.Gen(n), -1)
	}
	for _, n := range []int{-1, -2, -64, -greatest, math.MinInt, math.MinInt + 1, greatest + 1, greatest + 2, 2 * greatest, 1 << 32, 1 << 40, 1 << 62, math.MaxInt} {
		if New(n) != nil {
			t.Errorf("New(%d) is not nil", n)
		}
	}
}

// Promise 6.1: slots have nothing in common.
func TestSlotsAreTheirOwn(t *testing.T) {
	a, b := made(t, 3), made(t, 3)
	opens(t, "the first ones", a, 0, 0)
	opens(t, "the first ones", a, 1, 0)
	same(t, "Close", a.Close(0, 0), true)
	checkSlots(t, "the other ones", b, none(3))
	opens(t, "the other ones", b, 0, 0)
	same(t, "Right of the other ones", b.Right(0, 0), true)
	same(t, "Right of the first ones", a.Right(0, 0), false)
	opens(t, "the first ones", a, 0, 1)
	opens(t, "the other ones", b, 1, 0)
	sameList(t, "Places", b.Places(), []int{0, 1})
}

// Promise 6.2: places that were never open are opened from 0 on, each with the generation 0; none, if all are open, and nothing changes.
func TestOpenOfFreshPlaces(t *testing.T) {
	for _, n := range sizes() {
		s, want := made(t, n), none(n)
		for place := range n {
			opens(t, "a fresh one", s, place, 0)
			want.opened()
			checkSlots(t, "behind Open", s, want)
		}
		for range 3 {
			opensNone(t, "all are open", s)
			checkSlots(t, "behind Open of all", s, want)
		}
		checkBeyond(t, "all are open", s, want)
	}
}

// Promise 6.2: the place that was closed is opened again, whichever it was, ahead of fresh ones, which come behind it from where they were.
func TestOpenBehindOneClose(t *testing.T) {
	for _, n := range sizes() {
		for opened := 1; opened <= n; opened++ {
			for place := range opened {
				s := made(t, n)
				for fresh := range opened {
					opens(t, "a fresh one", s, fresh, 0)
				}
				same(t, "Close", s.Close(place, 0), true)
				opens(t, "behind Close", s, place, 1)
				if opened < n {
					opens(t, "behind both", s, opened, 0)
				} else {
					opensNone(t, "behind both", s)
				}
			}
		}
	}
}

// Promise 6.2: of several that were closed the one that was closed last is opened first; behind them the fresh ones again, from where they were; then none.
func TestOpenBehindSeveralCloses(t *testing.T) {
	for opened := range 6 {
		for _, order := range orders(opened) {
			for left := range opened + 1 {
				s := made(t, 8)
				for place := range opened {
					opens(t, "a fresh one", s, place, 0)
				}
				for _, place := range order[left:] {
					same(t, "Close", s.Close(place, 0), true)
				}
				again := slices.Clone(order[left:])
				slices.Reverse(again)
				for _, place := range again {
					opens(t, "a closed one", s, place, 1)
				}
				for place := opened; place < 8; place++ {
					opens(t, "a fresh one again", s, place, 0)
				}
				opensNone(t, "all are open", s)
			}
		}
	}
}

// Promise 6.2: what was closed between Opens comes ahead of what was closed sooner, and waits no more when it is open.
func TestOpenBetweenCloses(t *testing.T) {
	s, want := full(t, 5)
	for _, place := range []int{3, 0, 4} {
		shut(t, "sooner", s, want, place, 0)
	}
	opens(t, "closed last", s, 4, 1)
	same(t, "Close", s.Close(2, 0), true)
	opens(t, "closed last", s, 2, 1)
	opens(t, "closed sooner", s, 0, 1)
	same(t, "Close again", s.Close(4, 1), true)
	same(t, "Close again", s.Close(0, 1), true)
	opens(t, "closed last", s, 0, 2)
	opens(t, "closed sooner", s, 4, 2)
	opens(t, "closed first", s, 3, 1)
	opensNone(t, "all are open", s)
}

// Promise 6.3: a place is right, and is closed, with the generation that is; not with one that was, or will be, and then nothing changes.
func TestCloseAndRightOfGenerations(t *testing.T) {
	for turns := range 5 {
		for _, place := range []int{0, 1, 2} {
			s, want := full(t, 3)
			for gen := range turns {
				shut(t, "Close", s, want, place, gen)
				open(t, "Open", s, want)
			}
			for gen := -2; gen < turns+3; gen++ {
				same(t, "Right", s.Right(place, gen), gen == turns)
			}
			for gen := -2; gen < turns+3; gen++ {
				if gen != turns {
					same(t, "Close of another generation", s.Close(place, gen), false)
					checkSlots(t, "behind Close of another generation", s, want)
				}
			}
			for _, gen := range wrongGens() {
				shut(t, "of no generation", s, want, place, gen)
			}
			checkSlots(t, "behind wrong calls", s, want)
			shut(t, "Close", s, want, place, turns)
			same(t, "Gen behind Close", s.Gen(place), turns+1)
			checkSlots(t, "behind Close", s, want)
		}
	}
}

// Promise 6.3: a place that is not open is neither right nor closed, be it with the generation that was, or with the one with which it will be open.
func TestCloseOfWhatIsClosed(t *testing.T) {
	for _, n := range []int{1, 2, 5} {
		for place := range n {
			s, want := full(t, n)
			shut(t, "Close", s, want, place, 0)
			for range 2 {
				for gen := -1; gen <= 3; gen++ {
					same(t, "Right of what is closed", s.Right(place, gen), false)
					same(t, "Close of what is closed", s.Close(place, gen), false)
				}
			}
			checkSlots(t, "behind Close of what is closed", s, want)
			opens(t, "behind all", s, place, 1)
			opensNone(t, "behind all", s)
		}
	}
}

// Promise 6.3: behind Open again the old generation closes nothing, and the new one does.
func TestCloseWithTheOldGeneration(t *testing.T) {
	s := made(t, 2)
	opens(t, "first", s, 0, 0)
	same(t, "Close", s.Close(0, 0), true)
	opens(t, "again", s, 0, 1)
	same(t, "Right of the old generation", s.Right(0, 0), false)
	same(t, "Close with the old generation", s.Close(0, 0), false)
	same(t, "Right of the new generation", s.Right(0, 1), true)
	same(t, "Len", s.Len(), 1)
	same(t, "Gen", s.Gen(0), 1)
	same(t, "Close with the new generation", s.Close(0, 1), true)
	same(t, "Close with it again", s.Close(0, 1), false)
	same(t, "Gen", s.Gen(0), 2)
	same(t, "Len", s.Len(), 0)
	opens(t, "once more", s, 0, 2)
	opens(t, "a fresh one", s, 1, 0)
}

// Promise 6.3: places below 0 and beyond are neither right nor closed, and nothing changes.
func TestWrongPlaces(t *testing.T) {
	for _, n := range sizes() {
		s, want := full(t, n)
		for place := 0; place < n; place += 2 {
			shut(t, "Close", s, want, place, 0)
		}
		for _, place := range beyond(n) {
			for _, gen := range append(wrongGens(), 0, 1, 2) {
				same(t, "Right of no place", s.Right(place, gen), false)
				same(t, "Close of no place", s.Close(place, gen), false)
			}
			same(t, "Gen of no place", s.Gen(place), -1)
		}
		checkSlots(t, "behind wrong calls", s, want)
		checkBeyond(t, "behind wrong calls", s, want)
		for range n + 1 {
			open(t, "behind wrong calls", s, want)
		}
		checkSlots(t, "behind all", s, want)
	}
}

// Promise 6.4: the generation of a place that is open, that is closed, that was never open, and of none.
func TestGen(t *testing.T) {
	s := made(t, 4)
	opens(t, "the first one", s, 0, 0)
	opens(t, "the second one", s, 1, 0)
	same(t, "Close", s.Close(0, 0), true)
	opens(t, "again", s, 0, 1)
	same(t, "Close", s.Close(1, 0), true)
	for place, want := range map[int]int{0: 1, 1: 1, 2: 0, 3: 0, 4: -1, -1: -1, math.MinInt: -1, math.MaxInt: -1} {
		same(t, "Gen", s.Gen(place), want)
	}
	same(t, "Close", s.Close(0, 1), true)
	same(t, "Gen of what was closed twice", s.Gen(0), 2)
	same(t, "Gen of what was closed once", s.Gen(1), 1)
}

// Promise 6.4: places are told rising, in whatever order they were closed and opened.
func TestPlacesRise(t *testing.T) {
	for _, order := range orders(5) {
		for closed := range 6 {
			for again := range closed + 1 {
				s, want := full(t, 5)
				for _, place := range order[:closed] {
					shut(t, "Close", s, want, place, 0)
				}
				for range again {
					open(t, "Open", s, want)
				}
				checkSlots(t, "slots", s, want)
			}
		}
	}
}

// Promise 6.4: many places rise likewise.
func TestManyPlacesRise(t *testing.T) {
	const many = 3000
	s, want := full(t, many)
	for n := range many {
		if place := n * 1009 % many; place%3 != 0 {
			shut(t, "Close", s, want, place, 0)
		}
	}
	sameList(t, "Places", s.Places(), want.places())
	for range many / 2 {
		open(t, "Open", s, want)
	}
	sameList(t, "Places behind Open", s.Places(), want.places())
	same(t, "Len", s.Len(), len(want.places()))
}

// Promise 6.4: places that are told are one's own.
func TestPlacesAreOnesOwn(t *testing.T) {
	s, want := full(t, 5)
	shut(t, "Close", s, want, 1, 0)
	list, other := s.Places(), s.Places()
	list[0], list[3] = 7, 1
	list = append(list[:2], 1, 1, 1, 1, 1)
	checkSlots(t, "behind changes of a list", s, want)
	sameList(t, "another list", other, []int{0, 2, 3, 4})
	shut(t, "Close", s, want, 3, 0)
	open(t, "Open", s, want)
	open(t, "Open", s, want)
	checkSlots(t, "behind calls", s, want)
	sameList(t, "the list told ahead", other, []int{0, 2, 3, 4})
	sameList(t, "the changed list", list, []int{7, 2, 1, 1, 1, 1, 1})
}

// Promise 6.4: slots that New did not give do nothing, and tell that nothing is there; those of none likewise.
func TestSlotsThatNewDidNotGive(t *testing.T) {
	numbers := []int{0, 1, 2, -1, greatest - 1, greatest, math.MinInt, math.MaxInt}
	for name, s := range map[string]*Slots{"nil": nil, "zero": {}, "of none": New(0)} {
		for range 2 {
			opensNone(t, name, s)
			for _, place := range numbers {
				for _, gen := range numbers {
					same(t, name+": Close", s.Close(place, gen), false)
					same(t, name+": Right", s.Right(place, gen), false)
				}
				same(t, name+": Gen", s.Gen(place), -1)
			}
			same(t, name+": Len", s.Len(), 0)
			same(t, name+": Places", len(s.Places()), 0)
			checkSlots(t, name, s, none(0))
			checkBeyond(t, name, s, none(0))
		}
	}
}

// Promise 6.5: a place that is opened and closed as often as is promised has each generation once, from 0 on.
func TestOnePlaceThroughAllGenerations(t *testing.T) {
	s := made(t, 1)
	for gen := range lastGen {
		place, got, ok := s.Open()
		if place != 0 || got != gen || !ok || !s.Right(0, gen) || s.Right(0, gen-1) {
			t.Fatalf("Open: %d %d %v, want 0 %d true", place, got, ok, gen)
		}
		if s.Close(0, gen+1) || !s.Close(0, gen) || s.Close(0, gen) || s.Gen(0) != gen+1 {
			t.Fatalf("Close of generation %d, of one more, or again: Gen is %d", gen, s.Gen(0))
		}
	}
	opens(t, "the last generation", s, 0, lastGen)
	opensNone(t, "it is open", s)
}

// Promise 6.5: no place is opened twice with the same generation, in a long row of calls.
func TestNoPlaceTwiceWithTheSameGeneration(t *testing.T) {
	for _, n := range sizes() {
		s := made(t, n)
		seen := map[[2]int]bool{}
		seed := uint32(1)
		for turn := range 20000 {
			seed = seed*1664525 + 1013904223
			if turn/(2*n+1)%2 == 0 || seed>>20%3 == 0 {
				place, gen, ok := s.Open()
				if ok && seen[[2]int{place, gen}] {
					t.Fatalf("place %d is opened twice with the generation %d", place, gen)
				}
				seen[[2]int{place, gen}] = ok
				continue
			}
			if places := s.Places(); len(places) > 0 {
				place := places[int(seed>>8)%len(places)]
				same(t, "Close", s.Close(place, s.Gen(place)), true)
			}
		}
	}
}

// step does the call of that number to slots and to what they have to be: the calls are Open, and Close of each place with the generation that is, and with the one that was.
func step(t *testing.T, s *Slots, want *plain, call int) {
	t.Helper()
	if call == 0 {
		open(t, "a row of calls", s, want)
		return
	}
	place := (call - 1) / 2
	shut(t, "a row of calls", s, want, place, want.gen(place)-(call-1)%2)
}

// Promises 6.2 to 6.5: all rows of so many calls, of few slots.
func TestAllRowsOfCalls(t *testing.T) {
	for n, length := range []int{3, 8, 7, 6} {
		rows := 1
		for range length {
			rows *= 2*n + 1
		}
		for row := range rows {
			s, want := made(t, n), none(n)
			calls := row
			for range length {
				step(t, s, want, calls%(2*n+1))
				calls /= 2*n + 1
			}
			checkSlots(t, "behind a row of calls", s, want)
			if t.Failed() {
				return
			}
		}
	}
}

// Promises 6.2 to 6.5: behind some rows of calls each call, wrong ones too.
func TestEachCallBehindRows(t *testing.T) {
	for row := range 7 * 7 * 7 * 7 {
		s, want := full(t, 3)
		for calls := row; calls > 0; calls /= 7 {
			step(t, s, want, calls%7)
		}
		for place := -1; place <= 3; place++ {
			for gen := -1; gen <= 4; gen++ {
				behind := want.copied()
				if behind.shut(place, gen) {
					continue // the right ones are done by step
				}
				same(t, "a wrong Close", s.Close(place, gen), false)
				checkSlots(t, "behind a wrong Close", s, want)
			}
		}
		for range 4 {
			open(t, "behind wrong calls", s, want)
		}
		if t.Failed() {
			return
		}
	}
}

// Promises 6.2 to 6.5: long rows of calls, between which all are opened, and become few.
func TestLongRowsOfCalls(t *testing.T) {
	for _, n := range []int{1, 2, 7, 40} {
		s, want := made(t, n), none(n)
		seed := uint32(1)
		roll := func(below int) int {
			seed = seed*1664525 + 1013904223
			return int(seed >> 8 % uint32(below))
		}
		for turn := range 6000 {
			opening := 4 // of five calls
			if turn/(4*n)%2 == 1 {
				opening = 1
			}
			if roll(5) < opening {
				open(t, "a long row", s, want)
			} else {
				place := roll(n+2) - 1
				off := []int{0, 0, 0, 0, -1, 1}[roll(6)]
				shut(t, "a long row", s, want, place, want.gen(place)+off)
			}
			checkSlots(t, "behind a call", s, want)
			if t.Failed() {
				return
			}
		}
	}
}

// Promises 6.1 to 6.5: the most slots that may be, all opened, some closed, and opened again.
func TestGreatestSlots(t *testing.T) {
	s := made(t, greatest)
	for want := range greatest {
		if place, gen, ok := s.Open(); place != want || gen != 0 || !ok {
			t.Fatalf("Open: %d %d %v, want %d 0 true", place, gen, ok, want)
		}
	}
	opensNone(t, "all are open", s)
	same(t, "Right of the last one", s.Right(greatest-1, 0), true)
	same(t, "Right beyond", s.Right(greatest, 0), false)
	same(t, "Close beyond", s.Close(greatest, 0), false)
	same(t, "Gen of the last one", s.Gen(greatest-1), 0)
	same(t, "Gen beyond", s.Gen(greatest), -1)
	for place := 0; place < greatest; place += 2 {
		if !s.Close(place, 0) {
			t.Fatalf("Close of %d is false", place)
		}
	}
	same(t, "Len", s.Len(), greatest/2)
	for n, place := range s.Places() {
		if place != 2*n+1 {
			t.Fatalf("%d is told as number %d", place, n)
		}
	}
	for want := greatest - 2; want >= 0; want -= 2 {
		if place, gen, ok := s.Open(); place != want || gen != 1 || !ok {
			t.Fatalf("Open: %d %d %v, want %d 1 true", place, gen, ok, want)
		}
	}
	opensNone(t, "all are open again", s)
	same(t, "Len behind all", len(s.Places()), greatest)
}

// The chapter's ways: what is open, and nothing else, stands in the map.
func TestWhatIsClosedIsDeleted(t *testing.T) {
	s, want := full(t, 6)
	for n, place := range []int{4, 0, 5, 2, 1, 3} {
		shut(t, "Close", s, want, place, 0)
		same(t, "how many stand in the map", len(s.open), 5-n)
		_, is := s.open[place]
		same(t, "what is closed stands in the map", is, false)
	}
	open(t, "Open", s, want)
	_, is := s.open[3]
	same(t, "what is open stands in the map", is && len(s.open) == 1, true)
}

// The chapter's example.
func TestExample(t *testing.T) {
	s := made(t, 2)
	opens(t, "the first", s, 0, 0)
	opens(t, "the second", s, 1, 0)
	same(t, "Close(0, 0)", s.Close(0, 0), true)
	opens(t, "the third", s, 0, 1)
}
