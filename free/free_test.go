package free

import (
	"fmt"
	"math"
	"slices"
	"testing"
)

const (
	top      = math.MaxInt64
	low      = math.MinInt64
	greatest = 1048576 // the most chunks, told here by their number: the package's own could be wrong
)

func same[T comparable](t *testing.T, what string, got, want T) {
	t.Helper()
	if got != want {
		t.Errorf("%s: %v, want %v", what, got, want)
	}
}

func sameList(t *testing.T, what string, got, want []int) {
	t.Helper()
	if !slices.Equal(got, want) {
		t.Errorf("%s: %s, want %s", what, short(got), short(want))
	}
}

// short is the list as a text, of which the middle is left out if there is much.
func short(l []int) string {
	if len(l) > 12 {
		return fmt.Sprintf("%v .. %d numbers .. %v", l[:4], len(l), l[len(l)-4:])
	}
	return fmt.Sprint(l)
}

// plain is what an index has to be: how many chunks there are, and those that are free in the order of the stack, the top one last.
type plain struct {
	size  int
	order []int
}

// fresh is an index of n chunks, all free.
func fresh(n int) *plain {
	p := &plain{size: n}
	for i := n - 1; i >= 0; i-- {
		p.order = append(p.order, i)
	}
	return p
}

// copied is an index alike.
func (p *plain) copied() *plain {
	return &plain{p.size, slices.Clone(p.order)}
}

// has is what Has has to tell.
func (p *plain) has(i int) bool {
	return slices.Contains(p.order, i)
}

// peek is what Peek has to tell.
func (p *plain) peek() (int, bool) {
	if len(p.order) == 0 {
		return 0, false
	}
	return p.order[len(p.order)-1], true
}

// take is what Take has to tell, and does what it has to do.
func (p *plain) take() (int, bool) {
	i, some := p.peek()
	if some {
		p.order = p.order[:len(p.order)-1]
	}
	return i, some
}

// pick is what Pick has to tell, and does what it has to do: the top one comes in the place of the one that is picked.
func (p *plain) pick(i int) bool {
	if !p.has(i) {
		return false
	}
	last := len(p.order) - 1
	p.order[slices.Index(p.order, i)] = p.order[last]
	p.order = p.order[:last]
	return true
}

// give is what Give has to tell, and does what it has to do.
func (p *plain) give(i int) bool {
	if i < 0 || i >= p.size || p.has(i) {
		return false
	}
	p.order = append(p.order, i)
	return true
}

// list is what List has to tell.
func (p *plain) list() []int {
	return slices.Sorted(slices.Values(p.order))
}

// wrong are numbers of chunks that an index of that size has not.
func wrong(size int) []int {
	return []int{low, low + 1, -1 << 32, -greatest - 1, -greatest, -size - 1, -64, -2, -1, size, size + 1, size + 2, 2*size + 64, 2*size + 65, greatest, greatest + 1, 1<<32 + size, 1 << 62, top - 1, top}
}

// places are numbers of chunks: those of an index of that size, and such as it has not.
func places(size int) []int {
	l := wrong(size)
	for i := range min(size, 140) {
		l = append(l, i, size-1-i)
	}
	slices.Sort(l)
	return slices.Compact(l)
}

// check holds all that an index tells against what it has to be.
func check(t *testing.T, what string, f *Index, want *plain) {
	t.Helper()
	got, some := f.Peek()
	next, has := want.peek()
	same(t, what+": Peek", got, next)
	same(t, what+": whether Peek has one", some, has)
	same(t, what+": Len", f.Len(), len(want.order))
	sameList(t, what+": Order", f.Order(), want.order)
	sameList(t, what+": List", f.List(), want.list())
	free := map[int]bool{}
	for _, i := range want.order {
		free[i] = true
	}
	for _, i := range places(want.size) {
		if got := f.Has(i); got != free[i] {
			t.Errorf("%s: Has(%d) is %v, want %v", what, i, got, free[i])
		}
	}
}

// pair is an index and what it has to be.
type pair struct {
	index *Index
	want  *plain
}

// paired is a new index of n chunks.
func paired(t *testing.T, n int) pair {
	t.Helper()
	f := New(n)
	if f == nil {
		t.Fatalf("New(%d) is nil", n)
	}
	return pair{f, fresh(n)}
}

// stacked is an index of n chunks of which those of the order alone are free, and stand so.
func stacked(t *testing.T, n int, order ...int) pair {
	t.Helper()
	p := paired(t, n)
	for range n {
		p.take(t)
	}
	for _, i := range order {
		same(t, fmt.Sprintf("Give(%d) at first", i), p.give(t, i), true)
	}
	sameList(t, "the order at first", p.want.order, order)
	return p
}

// take, pick and give do it to both, and hold what is told.
func (p pair) take(t *testing.T) (int, bool) {
	t.Helper()
	next, has := p.want.take()
	got, some := p.index.Take()
	if got != next || some != has {
		t.Errorf("Take: %d and %v, want %d and %v", got, some, next, has)
	}
	return next, has
}

func (p pair) pick(t *testing.T, i int) bool {
	t.Helper()
	done := p.want.pick(i)
	if got := p.index.Pick(i); got != done {
		t.Errorf("Pick(%d): %v, want %v", i, got, done)
	}
	return done
}

func (p pair) give(t *testing.T, i int) bool {
	t.Helper()
	done := p.want.give(i)
	if got := p.index.Give(i); got != done {
		t.Errorf("Give(%d): %v, want %v", i, got, done)
	}
	return done
}

func (p pair) check(t *testing.T, what string) {
	t.Helper()
	check(t, what, p.index, p.want)
}

// notGiven are indexes that New did not give.
func notGiven() map[string]*Index {
	return map[string]*Index{"a nil index": nil, "a zero index": {}, "a new zero index": new(Index), "no index of New(-1)": New(-1)}
}

// states are indexes of some sizes, each made anew by its function.
func states(t *testing.T) map[string]func() pair {
	return map[string]func() pair{
		"of no chunks":              func() pair { return paired(t, 0) },
		"of one that is free":       func() pair { return paired(t, 1) },
		"of one that is not":        func() pair { return stacked(t, 1) },
		"of two, all free":          func() pair { return paired(t, 2) },
		"of two, the other way":     func() pair { return stacked(t, 2, 0, 1) },
		"of five, as at first":      func() pair { return paired(t, 5) },
		"of five, the other way":    func() pair { return stacked(t, 5, 0, 1, 2, 3, 4) },
		"of five, some of them":     func() pair { return stacked(t, 5, 2, 4, 0) },
		"of five, the last alone":   func() pair { return stacked(t, 5, 4) },
		"of five, none":             func() pair { return stacked(t, 5) },
		"of 64, as at first":        func() pair { return paired(t, 64) },
		"of 65, those of two words": func() pair { return stacked(t, 65, 64, 1, 63, 0, 62) },
		"of 130, some of each word": func() pair { return stacked(t, 130, 129, 0, 64, 127, 128, 63, 65) },
	}
}

// Promise 17.1: an index of as many chunks as are asked for, all free, 0 on top and the last one the lowest.
func TestNew(t *testing.T) {
	for n := range 131 {
		p := paired(t, n)
		what := fmt.Sprintf("a new index of %d", n)
		p.check(t, what)
		same(t, what+": Give of the one ahead", p.give(t, -1), false)
		same(t, what+": Give of the one behind", p.give(t, n), false)
		same(t, what+": Pick of the one ahead", p.pick(t, -1), false)
		same(t, what+": Pick of the one behind", p.pick(t, n), false)
		p.check(t, what+", behind what was refused")
	}
}

// Promise 17.1: nil of what is not from 0 to 2^20, an index of what is.
func TestNewAtTheEdges(t *testing.T) {
	for _, n := range []int{low, low + 1, -1 << 32, -greatest - 1, -greatest, -2, -1, greatest + 1, greatest + 2, 2 * greatest, 1<<32 - 1, 1 << 32, 1<<32 + 1, 1 << 40, 1 << 62, top - 1, top} {
		if f := New(n); f != nil {
			t.Errorf("New(%d) is not nil", n)
		}
	}
	for _, n := range []int{0, 1, greatest - 1, greatest} {
		p := paired(t, n)
		p.check(t, fmt.Sprintf("a new index of %d", n))
	}
}

// Promises 17.1 and 17.2: chunks of a new index are taken from 0 on, each once, and then there is none, as often as it is asked.
func TestTakeOfANewIndex(t *testing.T) {
	for n := range 131 {
		f := New(n)
		what := fmt.Sprintf("an index of %d", n)
		for i := range n {
			same(t, what+": Len", f.Len(), n-i)
			same(t, what+": Has ahead of Take", f.Has(i), true)
			got, some := f.Take()
			same(t, what+": Take", got, i)
			same(t, what+": whether Take has one", some, true)
			same(t, what+": Has behind Take", f.Has(i), false)
		}
		for range 3 {
			got, some := f.Take()
			same(t, what+": Take of none", got, 0)
			same(t, what+": whether Take of none has one", some, false)
			check(t, what+", of which nothing is free", f, &plain{size: n})
		}
	}
}

// Promises 17.2 to 17.4: an index of no chunks has none, and takes none.
func TestNewOfNone(t *testing.T) {
	p := paired(t, 0)
	for _, i := range append(places(0), 1, 2, 63, 64) {
		same(t, fmt.Sprintf("Give(%d) of no chunks", i), p.give(t, i), false)
		same(t, fmt.Sprintf("Pick(%d) of no chunks", i), p.pick(t, i), false)
		p.take(t)
	}
	p.check(t, "an index of no chunks")
}

// Promises 17.2 and 17.3: the chapter's example.
func TestExample(t *testing.T) {
	f := New(3)
	take := func(want int) {
		t.Helper()
		got, some := f.Take()
		same(t, "Take", got, want)
		same(t, "whether Take has one", some, true)
	}
	take(0)
	same(t, "Give(0)", f.Give(0), true)
	take(0)
	same(t, "Pick(1)", f.Pick(1), true)
	take(2)
	same(t, "Len", f.Len(), 0)
	same(t, "Give(1)", f.Give(1), true)
	same(t, "List", fmt.Sprint(f.List()), "[1]")
	same(t, "Order", fmt.Sprint(f.Order()), "[1]")
}

// Promise 17.2: Peek tells what Take gives next, and changes nothing, however often it is asked.
func TestPeek(t *testing.T) {
	for what, state := range states(t) {
		p := state()
		for left := len(p.want.order); left >= 0; left-- {
			next, has := p.want.peek()
			for range 3 {
				got, some := p.index.Peek()
				same(t, what+": Peek", got, next)
				same(t, what+": whether Peek has one", some, has)
			}
			p.check(t, what+", behind Peek")
			p.take(t)
			p.check(t, what+", behind Take")
		}
	}
}

// Promise 17.3: Pick of each chunk, the top one, the lowest one and those between them, of what is not free and of what is not there: what it tells, and what is free behind it, in which order.
func TestPick(t *testing.T) {
	for what, state := range states(t) {
		for _, i := range places(state().want.size) {
			p := state()
			was := p.want.copied()
			name := fmt.Sprintf("%s, behind Pick(%d)", what, i)
			if p.pick(t, i) {
				p.check(t, name)
				was = p.want.copied()
			}
			same(t, name+": Pick again", p.pick(t, i), false)
			check(t, name+" that was refused", p.index, was)
		}
	}
}

// Promise 17.3: the top one stands in the place of what is picked, told here by lists.
func TestPickInOrder(t *testing.T) {
	for i, want := range []string{"[4 3 2 1]", "[4 3 2 0]", "[4 3 0 1]", "[4 0 2 1]", "[0 3 2 1]"} {
		f := New(5)
		same(t, "Pick", f.Pick(i), true)
		same(t, fmt.Sprintf("Order behind Pick(%d)", i), fmt.Sprint(f.Order()), want)
	}
	f := New(5)
	same(t, "Pick(4)", f.Pick(4), true)
	same(t, "Pick(3)", f.Pick(3), true)
	same(t, "Order behind both", fmt.Sprint(f.Order()), "[0 1 2]")
	next, _ := f.Take()
	same(t, "Take behind both", next, 2)
}

// Promise 17.3: Give of each chunk, of what is free and of what is not there: what it tells, and that it is on top.
func TestGive(t *testing.T) {
	for what, state := range states(t) {
		for _, i := range places(state().want.size) {
			p := state()
			was := p.want.copied()
			name := fmt.Sprintf("%s, behind Give(%d)", what, i)
			if p.give(t, i) {
				p.check(t, name)
				next, some := p.index.Peek()
				same(t, name+": Peek", next, i)
				same(t, name+": whether Peek has one", some, true)
				was = p.want.copied()
			}
			same(t, name+": Give again", p.give(t, i), false)
			check(t, name+" that was refused", p.index, was)
		}
	}
}

// Promise 17.3: what was taken and what was picked may be given, in any order, once each.
func TestGiveBehindTakeAndPick(t *testing.T) {
	const size = 6
	for i := range size {
		for j := range size {
			p := paired(t, size)
			taken, _ := p.take(t)
			picked := p.pick(t, i)
			next, _ := p.take(t)
			gives := []int{taken, next, i, j}
			if picked && j%2 == 1 {
				slices.Reverse(gives)
			}
			for _, k := range gives {
				p.give(t, k)
				p.check(t, fmt.Sprintf("Pick(%d) between two Takes, behind Give(%d) of %v", i, k, gives))
				same(t, "Give again", p.give(t, k), false)
			}
			same(t, "Len behind all", p.index.Len(), size)
		}
	}
}

// Promise 17.4: a list that was told is changed by no later call, and what is changed in it changes nothing.
func TestListsAreOnesOwn(t *testing.T) {
	for what, state := range states(t) {
		p := state()
		list, other := p.index.List(), p.index.List()
		order, beside := p.index.Order(), p.index.Order()
		told, stood := p.want.list(), slices.Clone(p.want.order)
		for k := range list {
			list[k] = -9
			order[k] = -8
		}
		_, _ = append(list, 5, 6, 7), append(order, 5, 6, 7)
		sameList(t, what+": another List behind changes", other, told)
		sameList(t, what+": another Order behind changes", beside, stood)
		p.check(t, what+", behind changes of lists")
		p.give(t, p.want.size-1)
		p.take(t)
		p.take(t)
		p.pick(t, p.want.size-1)
		for i := range p.want.size {
			p.give(t, i)
		}
		sameList(t, what+": List told ahead of calls", other, told)
		sameList(t, what+": Order told ahead of calls", beside, stood)
		p.check(t, what+", behind calls")
	}
}

// Promises 17.2 to 17.4: indexes that New did not give tell false, 0 and none, whichever call is the first one, and stay as they were.
func TestNilAndZeroIndexes(t *testing.T) {
	none := &plain{}
	zero := func(t *testing.T, what string, got int, some bool) {
		t.Helper()
		same(t, what, got, 0)
		same(t, what+": has it one", some, false)
	}
	calls := map[string]func(t *testing.T, f *Index){
		"Take":  func(t *testing.T, f *Index) { i, some := f.Take(); zero(t, "Take", i, some) },
		"Peek":  func(t *testing.T, f *Index) { i, some := f.Peek(); zero(t, "Peek", i, some) },
		"Len":   func(t *testing.T, f *Index) { same(t, "Len", f.Len(), 0) },
		"List":  func(t *testing.T, f *Index) { sameList(t, "List", f.List(), nil) },
		"Order": func(t *testing.T, f *Index) { sameList(t, "Order", f.Order(), nil) },
	}
	for _, i := range append(places(0), 1, 2, 64) {
		calls[fmt.Sprintf("Has(%d)", i)] = func(t *testing.T, f *Index) { same(t, "Has", f.Has(i), false) }
		calls[fmt.Sprintf("Pick(%d)", i)] = func(t *testing.T, f *Index) { same(t, "Pick", f.Pick(i), false) }
		calls[fmt.Sprintf("Give(%d)", i)] = func(t *testing.T, f *Index) { same(t, "Give", f.Give(i), false) }
	}
	for name, call := range calls {
		for what, f := range notGiven() {
			t.Run(what+", first "+name, func(t *testing.T) {
				call(t, f)
				check(t, "behind it", f, none)
				for _, other := range calls {
					other(t, f)
				}
				check(t, "behind all calls", f, none)
			})
		}
	}
	var flat Index
	same(t, "Give of a zero index as a value", flat.Give(0), false)
	check(t, "a zero index as a value", &flat, none)
}

// Promises 17.1 to 17.4: indexes beside each other do not meet.
func TestIndexesBesideEachOther(t *testing.T) {
	one, other, last := paired(t, 4), paired(t, 4), paired(t, 70)
	for turn := range 200 {
		one.call(t, turn*7%one.calls())
		other.call(t, turn*5%other.calls())
		last.call(t, turn*11%last.calls())
		one.check(t, "the first one")
		other.check(t, "another one")
		last.check(t, "a greater one")
	}
}

// calls is how many calls there are on an index: Pick and Give of each chunk and of those ahead and behind, and Take.
func (p pair) calls() int {
	return 2*(p.want.size+2) + 1
}

// call does the call of that number.
func (p pair) call(t *testing.T, number int) {
	t.Helper()
	numbers := p.want.size + 2
	i := number%numbers - 1
	switch {
	case number == 2*numbers:
		p.take(t)
	case number >= numbers:
		p.pick(t, i)
	default:
		p.give(t, i)
	}
}

// Promises 17.2 to 17.5: all rows of so many calls on an index of few chunks.
func TestAllRowsOfCalls(t *testing.T) {
	for size, length := range []int{4, 6, 5, 4} {
		calls := 2*(size+2) + 1
		rows := 1
		for range length {
			rows *= calls
		}
		for number := range rows {
			p := paired(t, size)
			for rest, k := number, 0; k < length; rest, k = rest/calls, k+1 {
				p.call(t, rest%calls)
			}
			short := fmt.Sprintf("behind row %d of %d calls on %d chunks", number, length, size)
			same(t, short+": Len", p.index.Len(), len(p.want.order))
			sameList(t, short+": Order", p.index.Order(), p.want.order)
			sameList(t, short+": List", p.index.List(), p.want.list())
			for i := range size {
				same(t, short+": Has", p.index.Has(i), p.want.has(i))
			}
		}
		if t.Failed() {
			return
		}
	}
}

// luck is a row of numbers that is the same at each run.
type luck uint64

func (l *luck) below(n int) int {
	*l = *l*6364136223846793005 + 1442695040888963407
	return int(uint64(*l) >> 33 % uint64(n))
}

// Promises 17.2 to 17.5: long rows of calls, all told behind each of them.
func TestLongRows(t *testing.T) {
	for n, size := range []int{1, 2, 7, 63, 64, 65, 129} {
		l := luck(n + 1)
		p := paired(t, size)
		for range 4000 {
			p.call(t, l.below(p.calls()))
			for range l.below(4) {
				p.take(t)
			}
			p.check(t, fmt.Sprintf("a long row on %d chunks", size))
			if t.Failed() {
				return
			}
		}
	}
}

// Promise 17.5: the set and the stack have the same chunks behind any calls, each once.
func TestSetAndStackAreAlike(t *testing.T) {
	l := luck(99)
	p := paired(t, 40)
	for range 5000 {
		p.call(t, l.below(p.calls()))
		order, list := p.index.Order(), p.index.List()
		same(t, "how many Order has", len(order), p.index.Len())
		same(t, "how many List has", len(list), p.index.Len())
		sameList(t, "Order, rising", slices.Sorted(slices.Values(order)), list)
		for i := range 40 {
			same(t, fmt.Sprintf("whether Order has %d", i), slices.Contains(order, i), p.index.Has(i))
		}
		for k := 1; k < len(list); k++ {
			if list[k-1] >= list[k] {
				t.Errorf("List is not rising: %v", list)
			}
		}
		if t.Failed() {
			return
		}
	}
}

// Promise 17.5: what was given last is taken first, and what is taken and given back in that order is taken then in the other order.
func TestLastGivenIsFirstTaken(t *testing.T) {
	for what, state := range states(t) {
		for many := range len(state().want.order) + 1 {
			p := state()
			var taken []int
			for range many {
				i, _ := p.take(t)
				taken = append(taken, i)
			}
			for _, i := range taken {
				same(t, what+": Give back", p.give(t, i), true)
			}
			p.check(t, what+", with all given back")
			slices.Reverse(taken)
			for _, i := range taken {
				got, some := p.index.Take()
				p.want.take()
				same(t, what+": Take of what was given last", got, i)
				same(t, what+": whether Take has one", some, true)
			}
			p.check(t, what+", taken again")
		}
	}
}

// Promise 17.5: what is taken and given at once leaves all as it was.
func TestTakeAndGive(t *testing.T) {
	for what, state := range states(t) {
		p := state()
		was := p.want.copied()
		if i, some := p.take(t); some {
			same(t, what+": Give", p.give(t, i), true)
		}
		check(t, what+", taken and given", p.index, was)
		for i := range p.want.size {
			if was.has(i) {
				continue
			}
			same(t, what+": Give", p.give(t, i), true)
			got, _ := p.take(t)
			same(t, what+": Take", got, i)
			check(t, what+", given and taken", p.index, was)
		}
	}
}

// Promises 17.1 to 17.4: as many chunks as may be, all taken and given again, and picked.
func TestMostChunks(t *testing.T) {
	f := New(greatest)
	same(t, "Give on a full index", f.Give(0), false)
	same(t, "Give of what is beyond", f.Give(greatest), false)
	for i := range greatest {
		if got, some := f.Take(); got != i || !some {
			t.Fatalf("Take: %d and %v, want %d", got, some, i)
		}
	}
	check(t, "the greatest index, of which nothing is free", f, &plain{size: greatest})
	rising := make([]int, greatest)
	for i := range greatest {
		rising[i] = i
		if !f.Give(i) {
			t.Fatalf("Give(%d) is false", i)
		}
	}
	sameList(t, "Order of all that were given", f.Order(), rising)
	sameList(t, "List of all that were given", f.List(), rising)
	same(t, "Pick of the lowest one", f.Pick(0), true)
	for i := 1; i < greatest; i += 2 {
		if !f.Pick(i) || f.Has(i) || f.Pick(i) {
			t.Fatalf("Pick(%d) is not done once", i)
		}
	}
	same(t, "Len behind all", f.Len(), greatest/2-1)
	list := f.List()
	for k, i := range list {
		if i != 2*k+2 {
			t.Fatalf("List has %d at %d", i, k)
		}
	}
	sameList(t, "Order, rising", slices.Sorted(slices.Values(f.Order())), list)
}
