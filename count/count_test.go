package count

import (
	"fmt"
	"math"
	"math/big"
	"slices"
	"sync"
	"testing"

	"copyhold/api"
)

const (
	top  = math.MaxInt64
	low  = math.MinInt64
	full = 4611686018427387904 // the greatest count, told here by its number: the package's own could be wrong
)

func same[T comparable](t *testing.T, what string, got, want T) {
	t.Helper()
	if got != want {
		t.Errorf("%s: %v, want %v", what, got, want)
	}
}

// plain is what a book has to be: its counts; none of a book that New did not give.
type plain []int

// add is what Add has to tell, and makes the count what it has to be behind it.
func (p plain) add(i, by int) api.Errno {
	switch {
	case len(p) == 0:
		return api.ErrNil
	case i < 0 || i >= len(p) || by < 0:
		return api.ErrArg
	case uint64(p[i])+uint64(by) > full:
		return api.ErrOver
	}
	p[i] += by
	return api.OK
}

// get is what Get has to tell.
func (p plain) get(i int) int {
	if i < 0 || i >= len(p) {
		return 0
	}
	return p[i]
}

// sum is what Sum has to tell.
func (p plain) sum() (int, bool) {
	all := new(big.Int)
	for _, count := range p {
		all.Add(all, big.NewInt(int64(count)))
	}
	if !all.IsInt64() {
		return 0, false
	}
	return int(all.Int64()), true
}

// top is what Top has to tell.
func (p plain) top() int {
	for i, count := range p {
		if !slices.ContainsFunc(p, func(other int) bool { return other > count }) {
			return i
		}
	}
	return -1
}

// short is the counts as a text, of which the middle is left out if there are many.
func short(p plain) string {
	if len(p) > 8 {
		return fmt.Sprintf("%v .. %d counts .. %v", p[:4], len(p), p[len(p)-4:])
	}
	return fmt.Sprint([]int(p))
}

// places are numbers of counts: those of a book of that size, and such as none has.
func places(size int) []int {
	l := []int{low, low + 1, -size - 1, -size, -65, -64, -2, -1, size, size + 1, 63, 64, 65, 128, 1 << 32, full, top - 1, top}
	for i := range size {
		l = append(l, i)
	}
	slices.Sort(l)
	return slices.Compact(l)
}

// amounts are numbers that are counted, and such as are not.
func amounts() []int {
	return []int{low, low + 1, -full - 1, -full, -2, -1, 0, 1, 2, 7, 1 << 32, full / 2, full/2 + 1, full - 8, full - 7, full - 6, full - 2, full - 1, full, full + 1, full + full/2, top - 1, top}
}

// booked is a book of these counts, each of which was counted at once.
func booked(t *testing.T, counts ...int) *Book {
	t.Helper()
	b := New(len(counts))
	for i, count := range counts {
		if wrong := b.Add(i, count); wrong != api.OK {
			t.Fatalf("Add(%d, %d) to a book of %d: %d", i, count, len(counts), wrong)
		}
	}
	return b
}

// alike are so many counts, all the same.
func alike(size, count int) plain {
	return slices.Repeat(plain{count}, size)
}

// check holds all that a book tells against what it has to be.
func check(t *testing.T, what string, b *Book, want plain) {
	t.Helper()
	for _, i := range places(len(want)) {
		if got := b.Get(i); got != want.get(i) {
			t.Errorf("%s, that is %s: Get(%d) is %d, want %d", what, short(want), i, got, want.get(i))
		}
	}
	if got := b.All(); !slices.Equal(got, want) {
		t.Errorf("%s: All is %s, want %s", what, short(got), short(want))
	}
	got, fits := b.Sum()
	wantSum, wantFits := want.sum()
	if got != wantSum || fits != wantFits {
		t.Errorf("%s, that is %s: Sum is %d, %t, want %d, %t", what, short(want), got, fits, wantSum, wantFits)
	}
	if got := b.Top(); got != want.top() {
		t.Errorf("%s, that is %s: Top is %d, want %d", what, short(want), got, want.top())
	}
}

// addBoth counts in the book and in what it has to be, and holds what Add tells.
func addBoth(t *testing.T, b *Book, want plain, i, by int) api.Errno {
	t.Helper()
	was := short(want)
	wrong := want.add(i, by)
	if got := b.Add(i, by); got != wrong {
		t.Errorf("Add(%d, %d) to %s: %d, want %d", i, by, was, got, wrong)
	}
	return wrong
}

// notGiven are books that New did not give.
func notGiven() map[string]*Book {
	return map[string]*Book{"a nil book": nil, "a zero book": {}, "a new zero book": new(Book), "no book of New(0)": New(0)}
}

// Promise 14.1: a book of as many counts as are asked for, all 0.
func TestNew(t *testing.T) {
	for n := 1; n <= 64; n++ {
		b := New(n)
		if b == nil {
			t.Fatalf("New(%d) is nil", n)
		}
		what := fmt.Sprintf("a new book of %d", n)
		check(t, what, b, alike(n, 0))
		same(t, what+": Add to the last one", b.Add(n-1, 3), api.OK)
		same(t, what+": Add to the one behind", b.Add(n, 3), api.ErrArg)
		same(t, what+": Add to the one ahead", b.Add(-1, 3), api.ErrArg)
		check(t, what+" with 3 in the last one", b, append(alike(n-1, 0), 3))
	}
}

// Promise 14.1: nil of what is not from 1 to 64.
func TestNewOfNoSize(t *testing.T) {
	for _, n := range []int{low, low + 1, -1 << 32, -65, -64, -2, -1, 0, 65, 66, 127, 128, 256, 257, 1 << 20, 1 << 32, 1<<32 + 1, full, top - 1, top} {
		if b := New(n); b != nil {
			t.Errorf("New(%d) is a book of %d", n, len(b.All()))
		}
	}
}

// Promises 14.1 to 14.3: the chapter's example.
func TestExample(t *testing.T) {
	b := New(3)
	same(t, "Add(1, 5)", b.Add(1, 5), api.OK)
	same(t, "Add(1, 2)", b.Add(1, 2), api.OK)
	same(t, "All", fmt.Sprint(b.All()), "[0 7 0]")
	same(t, "Top", b.Top(), 1)
	same(t, "Get(1)", b.Get(1), 7)
	sum, fits := b.Sum()
	same(t, "Sum", sum, 7)
	same(t, "whether Sum fits", fits, true)
}

// Promises 14.2 and 14.3: a book that New did not give tells ErrNil, whatever is added, and is as it was: 0, none, 0 and true, -1.
func TestNilAndZeroBooks(t *testing.T) {
	for what, b := range notGiven() {
		check(t, what, b, nil)
		for _, i := range places(64) {
			for _, by := range amounts() {
				if got := b.Add(i, by); got != api.ErrNil {
					t.Errorf("%s: Add(%d, %d) is %d, want %d", what, i, by, got, api.ErrNil)
				}
			}
		}
		check(t, what+" behind all Adds", b, nil)
		same(t, what+": how many All has", len(b.All()), 0)
		same(t, what+": Get(0)", b.Get(0), 0)
		same(t, what+": Top", b.Top(), -1)
		sum, fits := b.Sum()
		same(t, what+": Sum", sum, 0)
		same(t, what+": whether Sum fits", fits, true)
	}
	var flat Book
	same(t, "Add to a zero book as a value", flat.Add(0, 1), api.ErrNil)
	check(t, "a zero book as a value", &flat, nil)
}

// Promise 14.2: Add of any number to any count of what is the same all over, with what it tells, and that no other count is changed.
func TestAddAllPairs(t *testing.T) {
	for _, size := range []int{1, 2, 3, 63, 64} {
		for _, start := range []int{0, 1, 7, full / 2, full - 7, full - 1, full} {
			b, want := booked(t, alike(size, start)...), alike(size, start)
			for _, i := range places(size) {
				for _, by := range amounts() {
					if addBoth(t, b, want, i, by) != api.OK {
						if got := b.All(); !slices.Equal(got, want) {
							t.Errorf("a refused Add(%d, %d) to %s: %s", i, by, short(want), short(got))
						}
						continue
					}
					what := fmt.Sprintf("a book behind Add(%d, %d)", i, by)
					check(t, what, b, want)
					b, want = booked(t, alike(size, start)...), alike(size, start)
				}
			}
		}
	}
}

// Promise 14.2: which error is told where several would do.
func TestWhichErrorComesFirst(t *testing.T) {
	for _, row := range []struct {
		what  string
		b     *Book
		i, by int
		want  api.Errno
	}{
		{"no book, no count, below 0", nil, -1, -1, api.ErrNil},
		{"no book, no count", nil, 64, 1, api.ErrNil},
		{"no book, below 0", nil, 0, -1, api.ErrNil},
		{"no book, too much", nil, 0, full + 1, api.ErrNil},
		{"no book", nil, 0, 0, api.ErrNil},
		{"a zero book, no count, below 0", &Book{}, 1, low, api.ErrNil},
		{"a zero book, too much", &Book{}, 0, top, api.ErrNil},
		{"no count, below 0", New(2), 2, -1, api.ErrArg},
		{"no count, too much", New(2), 2, full + 1, api.ErrArg},
		{"no count, too much by far", New(2), -1, top, api.ErrArg},
		{"no count, nothing", New(2), 2, 0, api.ErrArg},
		{"below 0, where the count is full", booked(t, full), 0, -1, api.ErrArg},
		{"below 0 by far", booked(t, full), 0, low, api.ErrArg},
		{"below 0, though it would be one that may be", booked(t, 5), 0, -5, api.ErrArg},
		{"too much", New(2), 1, full + 1, api.ErrOver},
		{"too much by far", New(2), 0, top, api.ErrOver},
		{"too much by one", booked(t, 1), 0, full, api.ErrOver},
		{"too much, so that both do not fit an int", booked(t, full), 0, top, api.ErrOver},
		{"as much as may be", New(2), 1, full, api.OK},
		{"nothing, where the count is full", booked(t, full), 0, 0, api.OK},
	} {
		same(t, row.what, row.b.Add(row.i, row.by), row.want)
	}
}

// checkFull holds that the only count of a book is 2^62, to which only 0 may be added.
func checkFull(t *testing.T, what string, b *Book) {
	t.Helper()
	for _, row := range []struct {
		by   int
		want api.Errno
	}{{0, api.OK}, {1, api.ErrOver}, {2, api.ErrOver}, {full - 1, api.ErrOver}, {full, api.ErrOver}, {full + 1, api.ErrOver}, {top - 1, api.ErrOver}, {top, api.ErrOver}, {0, api.OK}, {-1, api.ErrArg}} {
		same(t, fmt.Sprintf("%s: Add of %d more", what, row.by), b.Add(0, row.by), row.want)
		check(t, what, b, plain{full})
	}
}

// Promise 14.2: a count comes to 2^62 at once, by two parts and by many, and no farther.
func TestUpToTheGreatestCount(t *testing.T) {
	checkFull(t, "2^62 at once", booked(t, full))
	for _, first := range []int{0, 1, 2, 7, 1 << 31, 1 << 32, full / 2, full - 2, full - 1, full} {
		b := booked(t, first)
		same(t, fmt.Sprintf("Add of one too many behind %d", first), b.Add(0, full-first+1), api.ErrOver)
		check(t, "a book behind one too many", b, plain{first})
		same(t, fmt.Sprintf("Add of all that is left behind %d", first), b.Add(0, full-first), api.OK)
		checkFull(t, fmt.Sprintf("%d and what is left", first), b)
	}
	for _, parts := range []int{2, 4, 64, 1 << 10} {
		b := New(1)
		for range parts {
			same(t, "Add of a part", b.Add(0, full/parts), api.OK)
		}
		checkFull(t, fmt.Sprintf("%d parts alike", parts), b)
	}
	b := booked(t, full-1000)
	for range 1000 {
		same(t, "Add of 1", b.Add(0, 1), api.OK)
	}
	checkFull(t, "many parts of 1", b)
	halved := New(1)
	for part := full / 2; part > 0; part /= 2 {
		same(t, "Add of a half", halved.Add(0, part), api.OK)
	}
	same(t, "Add of the last one", halved.Add(0, 1), api.OK)
	checkFull(t, "halves of halves", halved)
}

// Promise 14.2: an Add that is refused changes no count, however often, and one that is not changes no other.
func TestAddChangesNoOther(t *testing.T) {
	start := func() plain {
		p := alike(64, 0)
		for i := range p {
			p[i] = 1000*i + 3
		}
		return p
	}
	for i := range 64 {
		b, want := booked(t, start()...), start()
		for range 3 {
			same(t, "too much", b.Add(i, full), api.ErrOver)
			same(t, "below 0", b.Add(i, -1), api.ErrArg)
			same(t, "no such count", b.Add(64+i, 1), api.ErrArg)
			same(t, "no such count, ahead of all", b.Add(-1-i, 1), api.ErrArg)
			check(t, "a book behind what was refused", b, want)
		}
		for _, by := range []int{0, 1, 5, full - 2000000} {
			same(t, "what may be", addBoth(t, b, want, i, by), api.OK)
			check(t, "a book behind what was counted", b, want)
		}
	}
}

// asks are calls of a book of that size to which nothing was added, each with whether it tells what it has to.
func asks(size int) []func(b *Book) bool {
	return []func(b *Book) bool{
		func(b *Book) bool { return b.Get(0) == 0 },
		func(b *Book) bool { return b.Get(size-1) == 0 },
		func(b *Book) bool { return b.Get(size) == 0 && b.Get(-1) == 0 },
		func(b *Book) bool { return slices.Equal(b.All(), alike(size, 0)) },
		func(b *Book) bool { sum, fits := b.Sum(); return sum == 0 && fits },
		func(b *Book) bool { return b.Top() == 0 },
		func(b *Book) bool { return b.Add(size, 1) == api.ErrArg && b.Add(0, full+1) == api.ErrOver },
	}
}

// orders are all orders of so many.
func orders(many int) [][]int {
	if many == 0 {
		return [][]int{nil}
	}
	var all [][]int
	for _, order := range orders(many - 1) {
		for at := range many {
			all = append(all, slices.Insert(slices.Clone(order), at, many-1))
		}
	}
	return all
}

// Promise 14.3: a book to which nothing was added tells the same, whatever is asked first, and counts behind it.
func TestAskedAheadOfTheFirstAdd(t *testing.T) {
	for _, size := range []int{1, 2, 64} {
		calls := asks(size)
		for _, order := range orders(len(calls)) {
			b := New(size)
			for _, call := range order {
				if !calls[call](b) {
					t.Fatalf("size %d, in the order %v: call %d tells something else", size, order, call)
				}
			}
			same(t, "the first Add", b.Add(size-1, 9), api.OK)
			same(t, "Get behind it", b.Get(size-1), 9)
		}
	}
}

// Promise 14.3: Get of each count, and of no such one, ahead of the first Add and behind it.
func TestGet(t *testing.T) {
	for size := 1; size <= 64; size++ {
		b := New(size)
		wrong := []int{low, low + 1, -65, -64, -2, -1, size, size + 1, 64, 65, 128, 1 << 32, top - 1, top}
		for _, i := range wrong {
			same(t, fmt.Sprintf("size %d: Get(%d) ahead of the first Add", size, i), b.Get(i), 0)
		}
		for i := range size {
			same(t, fmt.Sprintf("size %d: Get(%d) ahead of its Add", size, i), b.Get(i), 0)
			same(t, "Add", b.Add(i, full-i), api.OK)
			same(t, fmt.Sprintf("size %d: Get(%d) behind its Add", size, i), b.Get(i), full-i)
		}
		for i := range size {
			same(t, fmt.Sprintf("size %d: Get(%d) behind all Adds", size, i), b.Get(i), full-i)
		}
		for _, i := range wrong {
			same(t, fmt.Sprintf("size %d: Get(%d) behind all Adds", size, i), b.Get(i), 0)
		}
	}
}

// Promise 14.3: All has as many numbers as there are counts, in order.
func TestAllInOrder(t *testing.T) {
	for _, size := range []int{1, 2, 3, 64} {
		b, want := New(size), alike(size, 0)
		for at := range size {
			i := (at*5 + 1) % size // not as they stand
			if i%7 != 3 {
				addBoth(t, b, want, i, 100*i+1)
			}
			if got := b.All(); !slices.Equal(got, want) {
				t.Errorf("size %d: All is %s, want %s", size, short(got), short(want))
			}
		}
		check(t, "a book of counts that are not alike", b, want)
	}
}

// Promise 14.3: a list that All gave is one's own: no Add changes it, and what is changed in it changes nothing.
func TestListsAreOnesOwn(t *testing.T) {
	for _, size := range []int{1, 2, 64} {
		b := New(size)
		fresh, other := b.All(), b.All()
		for i := range size {
			same(t, "Add", b.Add(i, 10+i), api.OK)
		}
		if !slices.Equal(fresh, alike(size, 0)) {
			t.Errorf("size %d: a list is changed by a later Add: %s", size, short(fresh))
		}
		want := plain(b.All())
		for i := range fresh {
			fresh[i] = -7
		}
		fresh = append(fresh, 1)
		fresh[0] = 8
		if !slices.Equal(other, alike(size, 0)) {
			t.Errorf("size %d: a list is changed by what is changed in another one: %s", size, short(other))
		}
		check(t, "a book whose list was changed", b, want)
		got := b.All()
		got[size-1] = full
		check(t, "a book whose next list was changed", b, want)
		same(t, "Add behind it", b.Add(size-1, 1), api.OK)
		same(t, "Get behind it", b.Get(size-1), 10+size)
	}
}

// checkSum holds what Sum tells of a book of these counts, in any order, with counts of 0 among them.
func checkSum(t *testing.T, counts []int, want int, wantFits bool) {
	t.Helper()
	many := []plain{counts, slices.Concat(plain{0}, counts), slices.Concat(counts, plain{0, 0}), slices.Concat(plain{0, 0}, counts, alike(64-2-len(counts), 0))}
	if len(counts) <= 5 {
		for _, order := range orders(len(counts)) {
			var p plain
			for _, i := range order {
				p = append(p, counts[i])
			}
			many = append(many, p)
		}
	}
	for _, p := range many {
		sum, fits := booked(t, p...).Sum()
		if sum != want || fits != wantFits {
			t.Errorf("Sum of %s: %d, %t, want %d, %t", short(p), sum, fits, want, wantFits)
		}
	}
}

// Promise 14.3: how many all counts are together, up to the greatest int, and 0 and false beyond it.
func TestSum(t *testing.T) {
	checkSum(t, []int{0}, 0, true)
	checkSum(t, []int{5}, 5, true)
	checkSum(t, []int{1, 2, 3, 4}, 10, true)
	checkSum(t, alike(62, 1), 62, true)
	checkSum(t, []int{full}, full, true)
	checkSum(t, []int{full - 1, 1}, full, true)
	checkSum(t, []int{full, full - 2}, top-1, true)
	checkSum(t, []int{full, full - 1}, top, true)
	checkSum(t, []int{full - 1, full - 1, 1}, top, true)
	checkSum(t, []int{full / 2, full / 2, full / 2, full/2 - 1}, top, true)
	checkSum(t, []int{full, full - 4, 1, 1, 1}, top, true)
	checkSum(t, []int{full, full - 1, 1}, 0, false)
	checkSum(t, []int{full, full - 1, 2}, 0, false)
	checkSum(t, []int{full, full}, 0, false)
	checkSum(t, []int{full, full, 1}, 0, false)
	checkSum(t, []int{full, full, full}, 0, false)
	checkSum(t, alike(4, full), 0, false) // 2^64, of which 64 bits would leave 0
	checkSum(t, []int{full, full, full, full, 5}, 0, false)
	checkSum(t, alike(62, full), 0, false)
	checkSum(t, alike(62, full/16), 0, false)
	checkSum(t, alike(32, full/16), 0, false)
	checkSum(t, alike(31, full/16), 31*(full/16), true)
	for many := range 65 {
		_, fits := booked(t, append(alike(many, full), 0)[:max(many, 1)]...).Sum()
		same(t, fmt.Sprintf("whether 2^62, %d times, fits", many), fits, many < 2)
	}
}

// Promise 14.3: Sum goes on from what fits to what does not, count by count, and stays what it is in another book.
func TestSumThatDoesNotFitAnyMore(t *testing.T) {
	for _, size := range []int{2, 3, 64} {
		b, want, beside := New(size), alike(size, 0), booked(t, full, 5)
		for i := range size {
			for _, by := range []int{0, 1, full / 2, full/2 - 2, 1} {
				same(t, "Add", addBoth(t, b, want, i, by), api.OK)
				check(t, "a book whose counts grow", b, want)
				check(t, "a book beside it", beside, plain{full, 5})
			}
		}
		_, fits := b.Sum()
		same(t, "whether it fits at last", fits, false)
		check(t, "a book made behind it", booked(t, 2, 3), plain{2, 3})
	}
}

// Promise 14.3: the least number of a count that is the greatest.
func TestTop(t *testing.T) {
	for _, row := range []struct {
		counts []int
		want   int
	}{
		{[]int{0}, 0}, {[]int{5}, 0}, {[]int{full}, 0},
		{[]int{0, 0}, 0}, {[]int{1, 0}, 0}, {[]int{0, 1}, 1}, {[]int{1, 1}, 0},
		{[]int{0, 7, 0}, 1}, {[]int{7, 0, 7}, 0}, {[]int{0, 7, 7}, 1}, {[]int{6, 7, 7}, 1}, {[]int{7, 7, 8}, 2}, {[]int{8, 7, 7}, 0}, {[]int{7, 7, 7}, 0},
		{[]int{full - 1, full, full}, 1}, {[]int{full, full, full}, 0}, {[]int{0, full - 1, full}, 2},
		{[]int{1 << 32, 1<<32 + 1, 1}, 1}, {[]int{1, 1 << 32, 1 << 33, 1 << 33}, 2},
	} {
		same(t, "Top of "+fmt.Sprint(row.counts), booked(t, row.counts...).Top(), row.want)
	}
	for _, size := range []int{1, 2, 3, 63, 64} {
		same(t, "Top of all 0", booked(t, alike(size, 0)...).Top(), 0)
		same(t, "Top of all 9", booked(t, alike(size, 9)...).Top(), 0)
		for one := range size {
			p := alike(size, 4)
			p[one] = 5
			same(t, fmt.Sprintf("Top where %d of %d is the greatest", one, size), booked(t, p...).Top(), one)
			p[size-1] = 5
			same(t, fmt.Sprintf("Top where %d and the last of %d are the greatest", one, size), booked(t, p...).Top(), one)
			p[0] = 5
			same(t, fmt.Sprintf("Top where %d, the first and the last of %d are the greatest", one, size), booked(t, p...).Top(), 0)
		}
	}
}

// Promise 14.3: all books of few counts, each of which is one of few.
func TestAllSmallBooks(t *testing.T) {
	few := []int{0, 1, 2, full - 2, full - 1, full}
	for size := 1; size <= 4; size++ {
		all := 1
		for range size {
			all *= len(few)
		}
		for which := range all {
			var p plain
			for range size {
				p = append(p, few[which%len(few)])
				which /= len(few)
			}
			check(t, "a book", booked(t, p...), p)
		}
	}
}

// Promises 14.2 and 14.3: all short rows of Adds to a book of two counts.
func TestAllShortRowsOfAdds(t *testing.T) {
	type call struct{ i, by int }
	var calls []call
	for _, i := range []int{-1, 0, 1, 2} {
		for _, by := range []int{-1, 0, 1, full - 1, full, full + 1} {
			calls = append(calls, call{i, by})
		}
	}
	for _, a := range calls {
		for _, b := range calls {
			for _, c := range calls {
				book, want := New(2), alike(2, 0)
				for _, one := range []call{a, b, c} {
					addBoth(t, book, want, one.i, one.by)
				}
				check(t, fmt.Sprint("a book behind ", a, b, c), book, want)
			}
		}
	}
}

// luck tells numbers that are as if drawn, the same ones each time.
type luck uint64

func (l *luck) below(n int) int {
	*l = *l*6364136223846793005 + 1442695040888963407
	return int(uint64(*l)>>33) % n
}

// amount is what may be added, or may not.
func (l *luck) amount() int {
	switch all := amounts(); l.below(4) {
	case 0:
		return all[l.below(len(all))]
	case 1:
		return l.below(1<<31) << l.below(31)
	}
	return l.below(100)
}

// Promises 14.2 to 14.4: long rows of Adds, of which none makes a count less, whether it is refused or not.
func TestNoCountFalls(t *testing.T) {
	var l luck
	for _, size := range []int{1, 2, 5, 64} {
		for range 30 {
			b, want := New(size), alike(size, 0)
			for range 200 {
				was := b.All()
				addBoth(t, b, want, l.below(size+2)-1, l.amount())
				for i, count := range b.All() {
					if count < was[i] || count > full {
						t.Fatalf("count %d is %d, and was %d", i, count, was[i])
					}
				}
			}
			check(t, "a book behind a long row", b, want)
		}
	}
}

// Promises 14.1 to 14.3: books beside each other do not meet.
func TestBooksBesideEachOther(t *testing.T) {
	var l luck
	var books [7]*Book
	var want [7]plain
	for k := range books {
		size := 1 + k*k
		books[k], want[k] = New(size), alike(size, 0)
	}
	for range 2000 {
		k := l.below(len(books))
		addBoth(t, books[k], want[k], l.below(len(want[k])+2)-1, l.amount())
		other := l.below(len(books))
		check(t, fmt.Sprint("book ", other), books[other], want[other])
	}
	check(t, "a new book beside them", New(3), plain{0, 0, 0})
	for what, b := range notGiven() {
		check(t, what+" beside them", b, nil)
	}
	twins := []*Book{New(2), New(2)}
	same(t, "Add to one of two", twins[0].Add(1, full), api.OK)
	check(t, "the one", twins[0], plain{0, full})
	check(t, "the other one", twins[1], plain{0, 0})
}

// addParts adds the parts to the count, and holds the book behind them against one that counted all at once.
func addParts(t *testing.T, size, i int, parts []int) {
	t.Helper()
	b, at := New(size), New(size)
	all := 0
	for _, part := range parts {
		same(t, fmt.Sprintf("Add(%d, %d), one of %v", i, part, parts), b.Add(i, part), api.OK)
		all += part
		same(t, fmt.Sprintf("Get behind %d, one of %v", part, parts), b.Get(i), all)
	}
	same(t, "Add of all at once", at.Add(i, all), api.OK)
	want := alike(size, 0)
	want[i] = all
	check(t, fmt.Sprint("what is counted by ", parts), b, want)
	check(t, fmt.Sprint("what is counted at once, of ", parts), at, want)
}

// Promise 14.4: what is counted in parts is counted at once, wherever it is parted, with parts of 0 among them.
func TestCountedInParts(t *testing.T) {
	for all := range 11 {
		for cuts := range 1 << max(0, all-1) {
			parts := []int{1}
			for place := 1; place < all; place++ {
				if cuts>>(place-1)&1 == 1 {
					parts = append(parts, 0)
				}
				parts[len(parts)-1]++
			}
			if all == 0 {
				parts[0] = 0
			}
			addParts(t, 1, 0, parts)
			var mixed []int
			for _, part := range parts {
				mixed = append(mixed, 0, part, 0, 0)
			}
			addParts(t, 3, 2, mixed)
		}
	}
	for at := range 63 {
		addParts(t, 2, 1, []int{1 << at, full - 1<<at})
		addParts(t, 2, 0, []int{full - 1<<at, 0, 1 << at})
		addParts(t, 64, 63, []int{0, 1<<at - 1, 1, 0})
	}
}

// Promise 14.4: so it is with many parts that are as if drawn, of counts beside each other.
func TestCountedInManyParts(t *testing.T) {
	var l luck
	for range 200 {
		var parts []int
		left := full
		for range l.below(60) {
			part := min(left, l.below(1<<31)<<l.below(28))
			parts = append(parts, part)
			left -= part
		}
		addParts(t, 1, 0, parts)
		addParts(t, 9, l.below(9), append(parts, left))
	}
	const rounds = 1 << 16
	b := New(2)
	for range rounds {
		same(t, "Add(0, 3)", b.Add(0, 3), api.OK)
		same(t, "Add(1, 0)", b.Add(1, 0), api.OK)
	}
	check(t, "a book that counted often", b, plain{3 * rounds, 0})
}

// atOnce has so many do the same at the same time, and ends when all have done it.
func atOnce(many int, do func(who int)) {
	begin := make(chan struct{})
	var all sync.WaitGroup
	for who := range many {
		all.Go(func() {
			<-begin
			do(who)
		})
	}
	close(begin)
	all.Wait()
}

// Promises 14.2 and 14.4: nothing that is counted at the same time is lost, from the first one on.
func TestAddAtTheSameTime(t *testing.T) {
	const callers, rounds = 8, 2000
	for range 20 {
		b := New(3)
		atOnce(callers, func(who int) {
			for round := range rounds {
				if b.Add(who%2, 1+round%3) != api.OK || b.Get(2) != 0 {
					t.Error("Add at the same time is refused, or changes another count")
				}
			}
		})
		each := callers / 2 * (rounds/3*6 + 1 + 2)
		check(t, "a book that many added to", b, plain{each, each, 0})
	}
}

// Promise 14.2: a count is no more than 2^62 if it is added to at the same time as well, and as many Adds are done as fit.
func TestUpToTheGreatestCountAtTheSameTime(t *testing.T) {
	const callers, rounds, room = 8, 500, 1001
	for range 20 {
		b := booked(t, full-room)
		var done [callers]int
		atOnce(callers, func(who int) {
			for range rounds {
				if b.Add(0, 1) == api.OK {
					done[who]++
				}
			}
		})
		all := 0
		for _, many := range done {
			all += many
		}
		same(t, "how many were done", all, room)
		checkFull(t, "a count that many filled", b)
	}
}
