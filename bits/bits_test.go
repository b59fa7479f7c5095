package bits

import (
	"math"
	"slices"
	"testing"
)

const (
	top      = math.MaxInt64
	low      = math.MinInt64
	greatest = 1 << 20 // size, told here by its number: the package's own could be wrong
)

// sizes are those that 64 divides, those that it does not, and what is beside them.
func sizes() []int {
	return []int{0, 1, 2, 7, 8, 9, 63, 64, 65, 100, 127, 128, 129, 191, 192, 193, 256, 300}
}

// rules are what tells which numbers are in a set: none, all, the ends, alone ones, and runs within a word and over words' ends.
func rules(size int) []func(i int) bool {
	return []func(i int) bool{
		func(i int) bool { return false },
		func(i int) bool { return true },
		func(i int) bool { return i == 0 },
		func(i int) bool { return i == size-1 },
		func(i int) bool { return i == 0 || i == size-1 },
		func(i int) bool { return i != 0 && i != size-1 },
		func(i int) bool { return i%2 == 0 },
		func(i int) bool { return i%2 == 1 },
		func(i int) bool { return i%64 == 63 },
		func(i int) bool { return i%64 == 0 },
		func(i int) bool { return i%64 > 60 || i%64 < 3 },
		func(i int) bool { return i/64%2 == 0 },
		func(i int) bool { return i/64%2 == 1 },
		func(i int) bool { return i*i%11 < 4 },
		func(i int) bool { return i%13 > i/13 },
		func(i int) bool { return i > 5 && i < 140 && i != 70 },
	}
}

// wrong are numbers that no set of that size has.
func wrong(size int) []int {
	return []int{-1, -2, -63, -64, -65, low, low + 1, size, size + 1, size + 63, size + 64, size + 65, greatest, top - 1, top}
}

// filled is a set of that size of the numbers of a rule, and these, rising.
func filled(t *testing.T, size int, rule func(i int) bool) (*Set, []int) {
	t.Helper()
	s := New(size)
	if s == nil {
		t.Fatalf("New(%d) is nil", size)
	}
	var list []int
	for i := range size {
		if rule(i) {
			list = append(list, i)
			if !s.Put(i) {
				t.Errorf("size %d: Put(%d) is no change", size, i)
			}
		}
	}
	return s, list
}

// everySet calls a check with sets of all sizes and rules, and the numbers that are in each.
func everySet(t *testing.T, check func(t *testing.T, s *Set, size int, list []int)) {
	t.Helper()
	for _, size := range sizes() {
		for _, rule := range rules(size) {
			s, list := filled(t, size, rule)
			check(t, s, size, list)
		}
	}
}

func same[T comparable](t *testing.T, what string, got, want T) {
	t.Helper()
	if got != want {
		t.Errorf("%s: %v, want %v", what, got, want)
	}
}

func sameList(t *testing.T, what string, got, want []int) {
	t.Helper()
	if !slices.Equal(got, want) {
		t.Errorf("%s: %v, want %v", what, got, want)
	}
}

// checkNumbers holds what is in s against a list, by each call that tells it.
func checkNumbers(t *testing.T, what string, s *Set, size int, list []int) {
	t.Helper()
	same(t, what+": Size", s.Size(), size)
	same(t, what+": Count", s.Count(), len(list))
	sameList(t, what+": List", s.List(), list)
	for i := range size {
		if s.Has(i) != slices.Contains(list, i) {
			t.Errorf("%s: Has(%d): %v", what, i, s.Has(i))
		}
	}
	for _, i := range wrong(size) {
		if s.Has(i) {
			t.Errorf("%s: has %d", what, i)
		}
	}
}

// Promise 2.1: sets of none, of each size that may be.
func TestNewIsOfNone(t *testing.T) {
	for _, size := range append(sizes(), greatest-64, greatest-1, greatest) {
		s := New(size)
		if s == nil {
			t.Errorf("New(%d) is nil", size)
			continue
		}
		same(t, "Size", s.Size(), size)
		same(t, "Count", s.Count(), 0)
		same(t, "First", s.First(), -1)
		same(t, "Last", s.Last(), -1)
		sameList(t, "List", s.List(), nil)
	}
}

// Promise 2.1: no set of a size that may not be.
func TestNewOfWrongSizes(t *testing.T) {
	for _, size := range []int{-1, -2, -64, low, greatest + 1, greatest + 64, 1 << 40, top} {
		if s := New(size); s != nil {
			t.Errorf("New(%d) is a set of size %d", size, s.Size())
		}
	}
}

// Promise 2.1: sets have nothing in common.
func TestSetsAreTheirOwn(t *testing.T) {
	a, b := New(70), New(70)
	a.Put(3)
	a.Put(69)
	same(t, "Count of the other one", b.Count(), 0)
	b.Put(4)
	sameList(t, "List", a.List(), []int{3, 69})
}

// Promise 2.2: a number is put once, and dropped once.
func TestPutAndDropTellChanges(t *testing.T) {
	for _, size := range sizes() {
		s := New(size)
		for i := range size {
			same(t, "Drop ahead of Put", s.Drop(i), false)
			same(t, "Put", s.Put(i), true)
			same(t, "Has behind Put", s.Has(i), true)
			same(t, "Put again", s.Put(i), false)
			same(t, "Has behind Put again", s.Has(i), true)
			same(t, "Count", s.Count(), i+1)
		}
		for i := range size {
			same(t, "Drop", s.Drop(i), true)
			same(t, "Has behind Drop", s.Has(i), false)
			same(t, "Drop again", s.Drop(i), false)
			same(t, "Has behind Drop again", s.Has(i), false)
			same(t, "Count", s.Count(), size-1-i)
		}
	}
}

// Promise 2.2: one number's change leaves all others as they are.
func TestChangesOfOne(t *testing.T) {
	everySet(t, func(t *testing.T, s *Set, size int, list []int) {
		for _, i := range []int{0, 1, 62, 63, 64, 65, 127, 128, size - 1} {
			if i < 0 || i >= size {
				continue
			}
			place, in := slices.BinarySearch(list, i)
			if in {
				s.Drop(i)
				sameList(t, "List behind Drop", s.List(), slices.Delete(slices.Clone(list), place, place+1))
				s.Put(i)
			} else {
				s.Put(i)
				sameList(t, "List behind Put", s.List(), slices.Insert(slices.Clone(list), place, i))
				s.Drop(i)
			}
			sameList(t, "List behind both", s.List(), list)
		}
	})
}

// Promise 2.2: false, and nothing, of a number that is none of the set's.
func TestPutAndDropOfWrongNumbers(t *testing.T) {
	everySet(t, func(t *testing.T, s *Set, size int, list []int) {
		for _, i := range wrong(size) {
			if s.Put(i) || s.Drop(i) || s.Has(i) {
				t.Errorf("size %d: Put, Drop or Has of %d is true", size, i)
			}
		}
		checkNumbers(t, "behind wrong numbers", s, size, list)
		same(t, "Last", s.Last(), lastOf(list))
	})
}

func firstOf(list []int) int {
	if len(list) == 0 {
		return -1
	}
	return list[0]
}

func lastOf(list []int) int {
	if len(list) == 0 {
		return -1
	}
	return list[len(list)-1]
}

// nextOf is the least one of a rising list above i; -1 without one.
func nextOf(list []int, i int) int {
	for _, x := range list {
		if x > i {
			return x
		}
	}
	return -1
}

// runOf is where so many of a rising list's numbers first stand one behind the other; -1, if they nowhere do.
func runOf(list []int, n int) int {
	for k := 0; n > 0 && k+n <= len(list); k++ {
		if list[k+n-1]-list[k] == n-1 {
			return list[k]
		}
	}
	return -1
}

// Promise 2.3: what is in a set.
func TestNumbersOfSets(t *testing.T) {
	everySet(t, func(t *testing.T, s *Set, size int, list []int) {
		checkNumbers(t, "a set", s, size, list)
		same(t, "First", s.First(), firstOf(list))
		same(t, "Last", s.Last(), lastOf(list))
	})
}

// Promise 2.3: the next one, of each number, and of those that are none of the set's.
func TestNext(t *testing.T) {
	everySet(t, func(t *testing.T, s *Set, size int, list []int) {
		for i := -3; i < size+70; i++ {
			if got, want := s.Next(i), nextOf(list, i); got != want {
				t.Errorf("size %d, %v: Next(%d): %d, want %d", size, list, i, got, want)
			}
		}
		for _, i := range wrong(size) {
			if got, want := s.Next(i), nextOf(list, i); got != want {
				t.Errorf("size %d, %v: Next(%d): %d, want %d", size, list, i, got, want)
			}
		}
	})
}

// Promise 2.3: runs of each length, and of those that may not be.
func TestRun(t *testing.T) {
	everySet(t, func(t *testing.T, s *Set, size int, list []int) {
		for n := -2; n < size+3; n++ {
			if got, want := s.Run(n), runOf(list, n); got != want {
				t.Errorf("size %d, %v: Run(%d): %d, want %d", size, list, n, got, want)
			}
		}
		for _, n := range []int{low, low + 1, -64, greatest, greatest + 1, top - 1, top} {
			if got := s.Run(n); got != -1 {
				t.Errorf("size %d: Run(%d): %d, want -1", size, n, got)
			}
		}
	})
}

// Promise 2.3: a list that is told is one's own.
func TestListIsOnesOwn(t *testing.T) {
	s := New(130)
	for _, i := range []int{1, 64, 129} {
		s.Put(i)
	}
	list := s.List()
	list[0], list[1] = 77, 78
	sameList(t, "List", s.List(), []int{1, 64, 129})
	list = s.List()
	s.Drop(64)
	sameList(t, "the list told ahead", list, []int{1, 64, 129})
}

// Promises 2.1 to 2.3: the greatest set, none of it, all of it, and its ends.
func TestGreatestSet(t *testing.T) {
	s := New(greatest)
	if !s.Put(greatest-1) || !s.Put(0) || s.Put(greatest) {
		t.Error("Put of the ends")
	}
	sameList(t, "List", s.List(), []int{0, greatest - 1})
	same(t, "Next of the first one", s.Next(0), greatest-1)
	same(t, "Next of the last one", s.Next(greatest-1), -1)
	same(t, "Last", s.Last(), greatest-1)
	for i := range greatest {
		s.Put(i)
	}
	same(t, "Count", s.Count(), greatest)
	same(t, "Run of all", s.Run(greatest), 0)
	same(t, "Run of more", s.Run(greatest+1), -1)
	s.Drop(500)
	same(t, "Run behind Drop", s.Run(501), 501)
	same(t, "Count behind Drop", s.Count(), greatest-1)
}

// The chapter's example.
func TestExample(t *testing.T) {
	s := New(8)
	for _, i := range []int{1, 2, 3, 7} {
		s.Put(i)
	}
	same(t, "Run(3)", s.Run(3), 1)
	same(t, "Next(3)", s.Next(3), 7)
	same(t, "Run(4)", s.Run(4), -1)
}

// Promise 2.4: sets that New did not give.
func TestSetsThatNewDidNotGive(t *testing.T) {
	for name, s := range map[string]*Set{"nil": nil, "zero": {}} {
		for _, i := range append(wrong(0), 1, 63, 64) {
			if s.Has(i) || s.Put(i) || s.Drop(i) || s.Has(i) {
				t.Errorf("%s: Has, Put or Drop of %d is true", name, i)
			}
			same(t, name+": Next", s.Next(i), -1)
			same(t, name+": Run", s.Run(i), -1)
		}
		same(t, name+": Size", s.Size(), 0)
		same(t, name+": Count", s.Count(), 0)
		same(t, name+": First", s.First(), -1)
		same(t, name+": Last", s.Last(), -1)
		sameList(t, name+": List", s.List(), nil)
	}
}

// Promise 2.5: by Next from First on all are gone through, and each once.
func TestGoingThrough(t *testing.T) {
	everySet(t, func(t *testing.T, s *Set, size int, list []int) {
		var seen []int
		for i := s.First(); i >= 0 && len(seen) <= size; i = s.Next(i) {
			seen = append(seen, i)
		}
		sameList(t, "gone through", seen, list)
	})
}

// pickOf is the numbers below size that are in both as an asking tells, rising.
func pickOf(size int, a, b []int, asked func(inA, inB bool) bool) []int {
	var list []int
	for i := range size {
		if asked(slices.Contains(a, i), slices.Contains(b, i)) {
			list = append(list, i)
		}
	}
	return list
}

// checkPair holds what two sets make against their numbers.
func checkPair(t *testing.T, a, b *Set, listA, listB []int) {
	t.Helper()
	size := max(a.Size(), b.Size())
	checkNumbers(t, "Or", Or(a, b), size, pickOf(size, listA, listB, func(inA, inB bool) bool { return inA || inB }))
	checkNumbers(t, "And", And(a, b), size, pickOf(size, listA, listB, func(inA, inB bool) bool { return inA && inB }))
	checkNumbers(t, "Less", Less(a, b), size, pickOf(size, listA, listB, func(inA, inB bool) bool { return inA && !inB }))
	same(t, "Same", Same(a, b), slices.Equal(listA, listB))
	sameList(t, "List of the first one, unchanged", a.List(), listA)
	sameList(t, "List of the second one, unchanged", b.List(), listB)
}

// Promise 2.6: of two sets, whose sizes are alike or not.
func TestPairs(t *testing.T) {
	pairSizes := []int{0, 1, 63, 64, 65, 128, 150}
	for _, sizeA := range pairSizes {
		for _, sizeB := range pairSizes {
			for _, ruleA := range rules(sizeA) {
				a, listA := filled(t, sizeA, ruleA)
				for _, ruleB := range rules(sizeB) {
					b, listB := filled(t, sizeB, ruleB)
					checkPair(t, a, b, listA, listB)
				}
			}
		}
	}
}

// Promise 2.6: nil sets and zero ones count as sets of size 0.
func TestPairsWithNone(t *testing.T) {
	none := []*Set{nil, {}, New(0)}
	for _, a := range none {
		for _, b := range none {
			checkPair(t, a, b, nil, nil)
			if Or(a, b) == nil || And(a, b) == nil || Less(a, b) == nil {
				t.Error("of two sets of size 0 comes no set")
			}
		}
		everySet(t, func(t *testing.T, s *Set, size int, list []int) {
			checkPair(t, a, s, nil, list)
			checkPair(t, s, a, list, nil)
		})
	}
}

// Promise 2.6: a set, and itself.
func TestPairsOfOne(t *testing.T) {
	everySet(t, func(t *testing.T, s *Set, size int, list []int) {
		checkPair(t, s, s, list, list)
	})
}

// Promise 2.6: whatever their sizes, sets of the same numbers are the same, and a number that only one has tells them apart.
func TestSameOfUnlikeSizes(t *testing.T) {
	for _, size := range []int{70, 128, 129, 500, greatest} {
		a, b := New(70), New(size)
		same(t, "Same of none", Same(a, b), true)
		for _, i := range []int{0, 63, 64, 69} {
			a.Put(i)
			same(t, "Same, the first one has more", Same(a, b), false)
			b.Put(i)
			same(t, "Same", Same(a, b), true)
		}
		if size > 70 {
			b.Put(size - 1)
			same(t, "Same, the greater one has more", Same(a, b), false)
			same(t, "Same, the greater one first", Same(b, a), false)
		}
	}
}

// Promise 2.6: the greatest sets.
func TestPairsOfGreatestSets(t *testing.T) {
	a, b := New(greatest), New(greatest)
	a.Put(greatest - 1)
	a.Put(5)
	b.Put(greatest - 1)
	b.Put(6)
	checkList := func(what string, s *Set, want []int) {
		same(t, what+": Size", s.Size(), greatest)
		sameList(t, what, s.List(), want)
	}
	checkList("Or", Or(a, b), []int{5, 6, greatest - 1})
	checkList("And", And(a, b), []int{greatest - 1})
	checkList("Less", Less(a, b), []int{5})
	checkList("And with a nil one", And(nil, b), nil)
	checkList("Less of a nil one", Less(nil, b), nil)
}

// Promise 2.6: what comes is a new set: neither changes with the other.
func TestPairsGiveNewSets(t *testing.T) {
	a, b := New(100), New(100)
	a.Put(1)
	b.Put(1)
	news := []*Set{Or(a, b), And(a, b), Less(a, b), Or(a, nil), Or(nil, b), And(a, a), Less(a, nil)}
	for _, s := range news {
		want := s.List()
		a.Put(99)
		b.Put(99)
		sameList(t, "List behind Put into the old ones", s.List(), want)
		a.Drop(99)
		b.Drop(99)
		if !s.Put(50) {
			t.Error("Put into a new set is no change")
		}
		sameList(t, "List of the first one", a.List(), []int{1})
		sameList(t, "List of the second one", b.List(), []int{1})
	}
}
