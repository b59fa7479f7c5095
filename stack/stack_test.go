package stack

import (
	"math"
	"slices"
	"testing"
)

// greatest is the greatest size, told here by its number: the package's own could be wrong.
const greatest = 1 << 20

func sizes() []int {
	return []int{0, 1, 2, 3, 4, 7, 64, 100}
}

// orders are rows of numbers that a stack of that size may have, each as it is pushed: none, one alone, some, and all in several orders.
func orders(size int) [][]int {
	rows := [][]int{nil}
	if size == 0 {
		return rows
	}
	rising := make([]int, size)
	for x := range size {
		rising[x] = x
	}
	falling := slices.Clone(rising)
	slices.Reverse(falling)
	turned := slices.Concat(rising[size/2:], rising[:size/2])
	var odd []int
	for x := 1; x < size; x += 2 {
		odd = append(odd, x)
	}
	return append(rows, rising, falling, turned, odd, []int{0}, []int{size - 1}, falling[:size/2])
}

// wrong are numbers that no stack of that size may have.
func wrong(size int) []int {
	return []int{-1, -2, -64, math.MinInt, math.MinInt + 1, -size - 1, size, size + 1, 2 * size, 2*size + 1, greatest, greatest + 1, math.MaxInt - 1, math.MaxInt}
}

// filled is a stack of that size on which the numbers of a row were pushed.
func filled(t *testing.T, size int, row []int) *Stack {
	t.Helper()
	s := New(size)
	if s == nil {
		t.Fatalf("New(%d) is nil", size)
	}
	for _, x := range row {
		if !s.Push(x) {
			t.Fatalf("size %d, %v: Push(%d) is false", size, row, x)
		}
	}
	return s
}

// everyStack calls a check with a maker of stacks of each size and row.
func everyStack(t *testing.T, check func(t *testing.T, size int, row []int, made func() *Stack)) {
	t.Helper()
	for _, size := range sizes() {
		for _, row := range orders(size) {
			check(t, size, row, func() *Stack { return filled(t, size, row) })
		}
	}
}

func same[T comparable](t *testing.T, what string, got, want T) {
	t.Helper()
	if got != want {
		t.Errorf("%s: %v, want %v", what, got, want)
	}
}

func sameList(t *testing.T, what string, got, want []int) {
	t.Helper()
	if !slices.Equal(got, want) {
		t.Errorf("%s: %v, want %v", what, got, want)
	}
}

func sameTop(t *testing.T, what string, got int, is bool, row []int) {
	t.Helper()
	if len(row) == 0 {
		same(t, what+", without one", got, 0)
		same(t, what+", without one", is, false)
		return
	}
	same(t, what, got, row[len(row)-1])
	same(t, what+": is there one", is, true)
}

// checkStack holds a stack against the row of its numbers, the lowest first, by each call that tells it.
func checkStack(t *testing.T, what string, s *Stack, size int, row []int) {
	t.Helper()
	same(t, what+": Len", s.Len(), len(row))
	sameList(t, what+": List", s.List(), row)
	x, is := s.Top()
	sameTop(t, what+": Top", x, is, row)
	for x := range size {
		if got, want := s.Place(x), slices.Index(row, x); got != want {
			t.Errorf("%s, %v: Place(%d): %d, want %d", what, row, x, got, want)
		}
	}
	for _, x := range wrong(size) {
		if got := s.Place(x); got != -1 {
			t.Errorf("%s, %v: Place(%d): %d, want -1", what, row, x, got)
		}
	}
}

// without is a row of which x is dropped: its last number stands where x stood.
func without(row []int, x int) []int {
	rest := slices.Clone(row)
	last := len(rest) - 1
	rest[slices.Index(rest, x)] = rest[last]
	return rest[:last]
}

// Promise 3.1: stacks of none, of each size that may be.
func TestNewIsOfNone(t *testing.T) {
	for _, size := range append(sizes(), greatest-1, greatest) {
		s := New(size)
		if s == nil {
			t.Errorf("New(%d) is nil", size)
			continue
		}
		checkStack(t, "a new stack", s, min(size, 100), nil)
		same(t, "Place of the last number", s.Place(size-1), -1)
		same(t, "Push of what is beyond the last number", s.Push(size), false)
		same(t, "Push of the last number", s.Push(size-1), size > 0)
	}
}

// Promise 3.1: no stack of a size that may not be.
func TestNewOfWrongSizes(t *testing.T) {
	for _, size := range []int{-1, -2, -64, math.MinInt, greatest + 1, greatest + 2, 2 * greatest, 1 << 40, 1 << 62, math.MaxInt} {
		if New(size) != nil {
			t.Errorf("New(%d) is a stack", size)
		}
	}
}

// Promise 3.1: stacks have nothing in common.
func TestStacksAreTheirOwn(t *testing.T) {
	a, b := New(5), New(5)
	a.Push(3)
	a.Push(0)
	checkStack(t, "the other one", b, 5, nil)
	b.Push(0)
	checkStack(t, "the first one", a, 5, []int{3, 0})
	checkStack(t, "the other one", b, 5, []int{0})
}

// Promise 3.2: what is pushed is the top one, be it the first or the last number, up to a full stack.
func TestPushMakesTheTopOne(t *testing.T) {
	everyStack(t, func(t *testing.T, size int, row []int, made func() *Stack) {
		s := New(size)
		for n, x := range row {
			same(t, "Push", s.Push(x), true)
			checkStack(t, "behind Push", s, size, row[:n+1])
		}
	})
}

// Promise 3.2: what is there already is not pushed, wherever it stands, and nothing changes.
func TestPushOfWhatIsThere(t *testing.T) {
	everyStack(t, func(t *testing.T, size int, row []int, made func() *Stack) {
		s := made()
		for _, x := range row {
			same(t, "Push again", s.Push(x), false)
			sameList(t, "behind Push again", s.List(), row)
		}
		checkStack(t, "behind all", s, size, row)
	})
}

// Promise 3.2: what may not be there is not pushed, and nothing changes.
func TestPushOfWrongNumbers(t *testing.T) {
	everyStack(t, func(t *testing.T, size int, row []int, made func() *Stack) {
		s := made()
		for _, x := range wrong(size) {
			if s.Push(x) {
				t.Errorf("size %d: Push(%d) is true", size, x)
			}
		}
		checkStack(t, "behind wrong numbers", s, size, row)
	})
}

// Promise 3.2: Top leaves all as it is; Pop takes what it tells, down to none, and may be asked of none.
func TestPopAndTop(t *testing.T) {
	everyStack(t, func(t *testing.T, size int, row []int, made func() *Stack) {
		s := made()
		for n := len(row); n >= 0; n-- {
			checkStack(t, "ahead of Pop", s, size, row[:n])
			x, is := s.Top()
			sameTop(t, "Top", x, is, row[:n])
			sameList(t, "behind Top", s.List(), row[:n])
			x, is = s.Pop()
			sameTop(t, "Pop", x, is, row[:n])
		}
		x, is := s.Pop()
		sameTop(t, "Pop again", x, is, nil)
		checkStack(t, "behind all", s, size, nil)
	})
}

// Promise 3.2: what was popped may be pushed again, and what is below it stays.
func TestPushBehindPop(t *testing.T) {
	everyStack(t, func(t *testing.T, size int, row []int, made func() *Stack) {
		s := made()
		for n := len(row) - 1; n >= 0; n-- {
			x, _ := s.Pop()
			same(t, "Push of what was popped", s.Push(x), true)
			checkStack(t, "behind Push", s, size, row[:n+1])
			s.Pop()
		}
	})
}

// Promise 3.3: each number of a stack, its top one, its lowest one, and those between: the top one comes to its place.
func TestDropOfEach(t *testing.T) {
	everyStack(t, func(t *testing.T, size int, row []int, made func() *Stack) {
		for _, x := range row {
			s := made()
			rest := without(row, x)
			same(t, "Drop", s.Drop(x), true)
			checkStack(t, "behind Drop", s, size, rest)
			same(t, "Drop again", s.Drop(x), false)
			checkStack(t, "behind Drop again", s, size, rest)
			same(t, "Push of what was dropped", s.Push(x), true)
			checkStack(t, "behind Push", s, size, append(rest, x))
		}
	})
}

// Promise 3.3: one drop behind the other, from the lowest place, and from the middle, down to none.
func TestDropOfAll(t *testing.T) {
	for _, part := range []int{1, 2, 3} {
		everyStack(t, func(t *testing.T, size int, row []int, made func() *Stack) {
			s := made()
			for rest := row; len(rest) > 0; {
				x := rest[len(rest)-1-(len(rest)-1)/part]
				same(t, "Drop", s.Drop(x), true)
				rest = without(rest, x)
				checkStack(t, "behind Drop", s, size, rest)
			}
		})
	}
}

// Promise 3.3: what is not there is not dropped, and nothing changes.
func TestDropOfWhatIsNotThere(t *testing.T) {
	everyStack(t, func(t *testing.T, size int, row []int, made func() *Stack) {
		s := made()
		for x := range size {
			if !slices.Contains(row, x) {
				same(t, "Drop", s.Drop(x), false)
			}
		}
		for _, x := range wrong(size) {
			if s.Drop(x) {
				t.Errorf("size %d: Drop(%d) is true", size, x)
			}
		}
		checkStack(t, "behind them", s, size, row)
	})
}

// Promise 3.4: places, how many, and which, from the lowest.
func TestPlaces(t *testing.T) {
	s := filled(t, 6, []int{5, 0, 3})
	same(t, "Len", s.Len(), 3)
	sameList(t, "List", s.List(), []int{5, 0, 3})
	for x, want := range []int{1, -1, -1, 2, -1, 0} {
		same(t, "Place", s.Place(x), want)
	}
	everyStack(t, func(t *testing.T, size int, row []int, made func() *Stack) {
		checkStack(t, "a stack", made(), size, row)
	})
}

// Promise 3.4: a list that is told is one's own.
func TestListIsOnesOwn(t *testing.T) {
	row := []int{4, 1, 2, 0}
	s := filled(t, 5, row)
	list, other := s.List(), s.List()
	list[0], list[3] = 3, 3
	list = append(list[:2], 77, 78, 79, 80)
	checkStack(t, "behind changes of a list", s, 5, row)
	sameList(t, "another list", other, row)
	same(t, "Push behind changes of a list", s.Push(3), true)
	checkStack(t, "behind Push", s, 5, []int{4, 1, 2, 0, 3})
	sameList(t, "the changed list", list, []int{3, 1, 77, 78, 79, 80})
	s.Drop(4)
	s.Pop()
	sameList(t, "the list told ahead", other, row)
}

// Promise 3.4: stacks that New did not give do nothing, and tell that nothing is there.
func TestStacksThatNewDidNotGive(t *testing.T) {
	for name, s := range map[string]*Stack{"nil": nil, "zero": {}} {
		for _, x := range append(wrong(0), 0, 1, 2, greatest-1) {
			if s.Push(x) || s.Drop(x) {
				t.Errorf("%s: Push or Drop of %d is true", name, x)
			}
			same(t, name+": Place", s.Place(x), -1)
		}
		x, is := s.Pop()
		sameTop(t, name+": Pop", x, is, nil)
		checkStack(t, name, s, 3, nil)
	}
}

// Promise 3.5: places of those that are there are the numbers from 0 on, each once, in the order of the list, whatever was done.
func TestPlacesAreAllOnce(t *testing.T) {
	everyStack(t, func(t *testing.T, size int, row []int, made func() *Stack) {
		s := made()
		for turn := range 3 * size {
			s.Drop(turn * 7 % size)
			s.Push(turn * 5 % size)
			seen := make([]int, s.Len())
			for x := range size {
				if place := s.Place(x); place >= 0 && place < len(seen) {
					seen[place]++
					same(t, "the number at a place", s.List()[place], x)
				} else {
					same(t, "Place of what is not there", place, -1)
				}
			}
			for place, times := range seen {
				if times != 1 {
					t.Errorf("size %d: place %d is that of %d numbers", size, place, times)
				}
			}
		}
	})
}

// Promise 3.5: what is pushed is popped, and all is as it was.
func TestPushedIsPopped(t *testing.T) {
	everyStack(t, func(t *testing.T, size int, row []int, made func() *Stack) {
		s := made()
		for x := range size {
			if slices.Contains(row, x) {
				continue
			}
			same(t, "Push", s.Push(x), true)
			got, is := s.Pop()
			same(t, "Pop", got, x)
			same(t, "Pop: is there one", is, true)
			checkStack(t, "behind both", s, size, row)
		}
	})
}

// step does the call of that number to a stack and to a row, and tells the row behind it: the calls are Push and Drop of each number from -1 to its size, and Pop.
func step(t *testing.T, s *Stack, size int, row []int, call int) []int {
	t.Helper()
	numbers := size + 2
	x := call%numbers - 1
	in := slices.Contains(row, x)
	switch {
	case call == 2*numbers:
		got, is := s.Pop()
		sameTop(t, "Pop", got, is, row)
		if is {
			return row[:len(row)-1]
		}
	case call >= numbers:
		same(t, "Drop", s.Drop(x), in)
		if in {
			return without(row, x)
		}
	default:
		may := !in && x >= 0 && x < size
		same(t, "Push", s.Push(x), may)
		if may {
			return append(slices.Clone(row), x)
		}
	}
	return row
}

// Promises 3.2 to 3.5: all rows of so many calls, of small stacks.
func TestAllRowsOfCalls(t *testing.T) {
	for size, length := range []int{4, 6, 5, 4} {
		calls := 2*(size+2) + 1
		rows := 1
		for range length {
			rows *= calls
		}
		for number := range rows {
			s := New(size)
			var row []int
			for rest := number; rest > 0; rest /= calls {
				row = step(t, s, size, row, rest%calls)
			}
			checkStack(t, "behind a row of calls", s, size, row)
		}
		if t.Failed() {
			return
		}
	}
}

// Promises 3.2 to 3.5: a long row of calls, that goes over all of a stack.
func TestLongRowOfCalls(t *testing.T) {
	const size = 50
	s := New(size)
	var row []int
	seed := uint32(1)
	for range 20000 {
		seed = seed*1664525 + 1013904223
		row = step(t, s, size, row, int(seed>>8)%(2*(size+2)+1))
		checkStack(t, "behind a call", s, size, row)
		if t.Failed() {
			return
		}
	}
}

// Promises 3.1 to 3.4: the greatest stack, full.
func TestGreatestStack(t *testing.T) {
	s := New(greatest)
	for n := range greatest {
		if !s.Push(greatest - 1 - n) {
			t.Fatalf("Push(%d) is false", greatest-1-n)
		}
	}
	same(t, "Len", s.Len(), greatest)
	same(t, "Push on a full stack", s.Push(0), false)
	same(t, "Push of what is beyond", s.Push(greatest), false)
	for n, x := range s.List() {
		if x != greatest-1-n || s.Place(x) != n {
			t.Fatalf("%d is at place %d, told as %d", x, n, s.Place(x))
		}
	}
	same(t, "Drop of the lowest one", s.Drop(greatest-1), true)
	same(t, "Place of the top one", s.Place(0), 0)
	same(t, "Place of what was dropped", s.Place(greatest-1), -1)
	x, is := s.Pop()
	same(t, "Pop", x, 1)
	same(t, "Pop: is there one", is, true)
	same(t, "Len behind both", s.Len(), greatest-2)
}

// The chapter's ways: nothing grows into the places, nor out of them, be a stack of none or full.
func TestNothingGrowsIntoPlaces(t *testing.T) {
	for _, row := range [][]int{nil, {2, 0, 1}} {
		s := filled(t, 3, row)
		beyond := append(s.numbers[:cap(s.numbers)], 77, 78, 79)
		sameList(t, "what grew", beyond[3:], []int{77, 78, 79})
		same(t, "how far the places reach", cap(s.places), 3)
		checkStack(t, "behind what grew", s, 3, row)
	}
}

// The chapter's example.
func TestExample(t *testing.T) {
	s := filled(t, 5, []int{4, 1, 2})
	same(t, "Drop(4)", s.Drop(4), true)
	sameList(t, "List", s.List(), []int{2, 1})
}
