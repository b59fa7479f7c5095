package ring

import (
	"math"
	"slices"
	"testing"
)

// greatest is the greatest room, told here by its number: the package's own could be wrong.
const greatest = 1 << 20

func rooms() []int {
	return []int{0, 1, 2, 3, 4, 7, 64, 100}
}

// rows are numbers that a queue of that room may have, the first one first: none, one alone, some, and as many as the room, with the same ones again and with numbers of all kinds.
func rows(room int) [][]int {
	list := [][]int{nil}
	if room == 0 {
		return list
	}
	rising, again, kinds := make([]int, room), make([]int, room), make([]int, room)
	some := []int{math.MinInt, 0, -1, math.MaxInt, 0, 1 << 40, -1}
	for n := range room {
		rising[n] = n + 1
		again[n] = n / 2 % 3
		kinds[n] = some[n%len(some)]
	}
	falling := slices.Clone(rising)
	slices.Reverse(falling)
	alike := slices.Repeat([]int{5}, room)
	return append(list, rising, falling, again, kinds, alike, []int{0}, []int{-1}, again[:room/2], kinds[:room-1])
}

// turns are how many numbers went through a queue of that room ahead of what it has, so that this begins in each kind of place of its memory.
func turns(room int) []int {
	if room == 0 {
		return []int{0}
	}
	return []int{0, 1, room / 2, room - 1, room, room + 1, 3*room - 1, 5 * room}
}

// turned is an empty queue of that room through which so many numbers went.
func turned(t *testing.T, room, turns int) *Ring {
	t.Helper()
	q := New(room)
	if q == nil {
		t.Fatalf("New(%d) is nil", room)
	}
	for n := range turns {
		put := q.Put(1000 + n)
		x, is := q.Take()
		if !put || !is || x != 1000+n {
			t.Fatalf("room %d: Put(%d): %v, Take: %d, %v", room, 1000+n, put, x, is)
		}
	}
	return q
}

// everyQueue calls a check with a maker of queues of each room and row, that went round in each way.
func everyQueue(t *testing.T, check func(t *testing.T, room int, row []int, made func() *Ring)) {
	t.Helper()
	for _, room := range rooms() {
		for _, row := range rows(room) {
			for _, gone := range turns(room) {
				check(t, room, row, func() *Ring {
					q := turned(t, room, gone)
					for _, x := range row {
						same(t, "Put", q.Put(x), true)
					}
					return q
				})
			}
		}
	}
}

func same[T comparable](t *testing.T, what string, got, want T) {
	t.Helper()
	if got != want {
		t.Errorf("%s: %v, want %v", what, got, want)
	}
}

func sameList(t *testing.T, what string, got, want []int) {
	t.Helper()
	if !slices.Equal(got, want) {
		t.Errorf("%s: %v, want %v", what, got, want)
	}
}

// sameAt holds an answer against the number at a place of a row.
func sameAt(t *testing.T, what string, got int, is bool, row []int, place int) {
	t.Helper()
	want, some := 0, place >= 0 && place < len(row)
	if some {
		want = row[place]
	}
	if got != want || is != some {
		t.Errorf("%s of %v at %d: %d, %v, want %d, %v", what, row, place, got, is, want, some)
	}
}

// beyond are places that no row of that length has.
func beyond(length int) []int {
	return []int{-1, -2, -64, -length, -length - 1, math.MinInt, math.MinInt + 1, length, length + 1, 2 * length, greatest, greatest + 1, math.MaxInt - 1, math.MaxInt}
}

// checkQueue holds a queue against the row of its numbers, the first one first, by each call that tells it.
func checkQueue(t *testing.T, what string, q *Ring, room int, row []int) {
	t.Helper()
	same(t, what+": Len", q.Len(), len(row))
	same(t, what+": Room", q.Room(), room)
	sameList(t, what+": List", q.List(), row)
	x, is := q.First()
	sameAt(t, what+": First", x, is, row, 0)
	for place, x := range row {
		got, is := q.At(place)
		sameAt(t, what+": At", got, is, row, place)
		same(t, what+": Place", q.Place(x), slices.Index(row, x))
	}
	for _, place := range beyond(len(row)) {
		got, is := q.At(place)
		if place != 0 || len(row) == 0 {
			sameAt(t, what+": At", got, is, row, place)
		}
	}
	for _, x := range []int{0, 1, 2, -1, -2, 5, 77, 1000, 1000 + room, 1 << 40, math.MinInt, math.MaxInt} {
		same(t, what+": Place", q.Place(x), slices.Index(row, x))
	}
}

// Promise 4.1: queues of none, of each room that may be.
func TestNewIsOfNone(t *testing.T) {
	for _, room := range append(rooms(), greatest-1, greatest) {
		q := New(room)
		if q == nil {
			t.Errorf("New(%d) is nil", room)
			continue
		}
		checkQueue(t, "a new queue", q, room, nil)
		x, is := q.Take()
		sameAt(t, "Take of a new queue", x, is, nil, 0)
		same(t, "Put", q.Put(-7), room > 0)
		checkQueue(t, "behind Put", q, room, []int{-7}[:min(room, 1)])
	}
}

// Promise 4.1: no queue of a room that may not be.
func TestNewOfWrongRooms(t *testing.T) {
	for _, room := range []int{-1, -2, -64, math.MinInt, greatest + 1, greatest + 2, 2 * greatest, 1 << 40, 1 << 62, math.MaxInt} {
		if New(room) != nil {
			t.Errorf("New(%d) is a queue", room)
		}
	}
}

// Promise 4.1: queues have nothing in common.
func TestQueuesAreTheirOwn(t *testing.T) {
	a, b := New(3), New(3)
	a.Put(3)
	a.Put(0)
	checkQueue(t, "the other one", b, 3, nil)
	b.Put(1)
	a.Take()
	checkQueue(t, "the first one", a, 3, []int{0})
	checkQueue(t, "the other one", b, 3, []int{1})
}

// Promise 4.2: what is put is the last one, be it any number, there already or not, up to a full queue.
func TestPutMakesTheLastOne(t *testing.T) {
	for _, room := range rooms() {
		for _, gone := range turns(room) {
			for _, row := range rows(room) {
				q := turned(t, room, gone)
				for n, x := range row {
					same(t, "Put", q.Put(x), true)
					checkQueue(t, "behind Put", q, room, row[:n+1])
				}
			}
		}
	}
}

// Promise 4.2: nothing is put in a full queue, and nothing changes.
func TestPutInAFullQueue(t *testing.T) {
	everyQueue(t, func(t *testing.T, room int, row []int, made func() *Ring) {
		if len(row) < room {
			return
		}
		q := made()
		for _, x := range []int{0, 1, -1, 77, math.MinInt, math.MaxInt} {
			same(t, "Put in a full queue", q.Put(x), false)
		}
		checkQueue(t, "behind Put in a full queue", q, room, row)
		if room == 0 {
			return
		}
		q.Take()
		same(t, "Put behind Take", q.Put(77), true)
		same(t, "Put in a full queue", q.Put(78), false)
		checkQueue(t, "behind both", q, room, append(slices.Clone(row[1:]), 77))
	})
}

// Promise 4.2: First leaves all as it is; Take takes what it tells, down to none, and may be asked of none.
func TestTakeAndFirst(t *testing.T) {
	everyQueue(t, func(t *testing.T, room int, row []int, made func() *Ring) {
		q := made()
		for n := range len(row) + 1 {
			checkQueue(t, "ahead of Take", q, room, row[n:])
			x, is := q.First()
			sameAt(t, "First", x, is, row, n)
			sameList(t, "behind First", q.List(), row[n:])
			x, is = q.Take()
			sameAt(t, "Take", x, is, row, n)
		}
		x, is := q.Take()
		sameAt(t, "Take again", x, is, nil, 0)
		checkQueue(t, "behind all", q, room, nil)
	})
}

// Promise 4.2: a queue that was emptied, and asked for more, is as a new one.
func TestPutBehindTakeOfAll(t *testing.T) {
	everyQueue(t, func(t *testing.T, room int, row []int, made func() *Ring) {
		q := made()
		for range len(row) + 2 {
			q.Take()
		}
		for n, x := range row {
			same(t, "Put", q.Put(x), true)
			checkQueue(t, "behind Put", q, room, row[:n+1])
		}
	})
}

// Promise 4.3: numbers at the first and the last place and between, none below 0 or beyond; places are the least ones.
func TestPlaces(t *testing.T) {
	q := turned(t, 5, 3)
	row := []int{7, -1, 7, 0}
	for _, x := range row {
		q.Put(x)
	}
	for place, x := range row {
		got, is := q.At(place)
		same(t, "At", got, x)
		same(t, "At: is there one", is, true)
	}
	for _, place := range []int{-1, 4, 5, math.MinInt, math.MaxInt} {
		got, is := q.At(place)
		same(t, "At of a place that is not there", got, 0)
		same(t, "At: is there one", is, false)
	}
	for x, want := range map[int]int{7: 0, -1: 1, 0: 3, 1: -1, 1000: -1, 1002: -1} {
		same(t, "Place", q.Place(x), want)
	}
	q.Take()
	same(t, "Place behind Take", q.Place(7), 1)
	everyQueue(t, func(t *testing.T, room int, row []int, made func() *Ring) {
		checkQueue(t, "a queue", made(), room, row)
	})
}

// Promise 4.3: what was taken, and what no one put, is not there, though the memory may have it.
func TestPlaceOfWhatWasTaken(t *testing.T) {
	everyQueue(t, func(t *testing.T, room int, row []int, made func() *Ring) {
		q := made()
		for n, x := range row {
			q.Take()
			same(t, "Place behind Take", q.Place(x), slices.Index(row[n+1:], x))
		}
	})
}

// Promise 4.3: a list that is told is one's own.
func TestListIsOnesOwn(t *testing.T) {
	for _, gone := range turns(5) {
		q := turned(t, 5, gone)
		row := []int{4, 1, 2, 0}
		for _, x := range row {
			q.Put(x)
		}
		list, other := q.List(), q.List()
		list[0], list[3] = 3, 3
		list = append(list[:2], 77, 78, 79, 80)
		checkQueue(t, "behind changes of a list", q, 5, row)
		sameList(t, "another list", other, row)
		same(t, "Put behind changes of a list", q.Put(3), true)
		checkQueue(t, "behind Put", q, 5, []int{4, 1, 2, 0, 3})
		sameList(t, "the changed list", list, []int{3, 1, 77, 78, 79, 80})
		q.Take()
		q.Put(9)
		sameList(t, "the list told ahead", other, row)
		none := New(2).List()
		same(t, "a list of none", len(none), 0)
	}
}

// Promise 4.3: queues that New did not give do nothing, and tell that nothing is there.
func TestQueuesThatNewDidNotGive(t *testing.T) {
	for name, q := range map[string]*Ring{"nil": nil, "zero": {}} {
		for range 2 {
			for _, x := range []int{0, 1, -1, greatest, math.MinInt, math.MaxInt} {
				same(t, name+": Put", q.Put(x), false)
				same(t, name+": Place", q.Place(x), -1)
			}
			x, is := q.Take()
			sameAt(t, name+": Take", x, is, nil, 0)
			checkQueue(t, name, q, 0, nil)
		}
	}
}

// Promise 4.4: what is put is taken in that order, while the queue goes round several times with each count of numbers in it.
func TestTakenInTheOrderOfPut(t *testing.T) {
	for _, room := range rooms() {
		for full := 1; full <= room; full++ {
			q := New(room)
			var row []int
			put := 0
			for range 4 * room {
				for len(row) < full {
					put++
					same(t, "Put", q.Put(put*put), true)
					row = append(row, put*put)
				}
				x, is := q.Take()
				sameAt(t, "Take", x, is, row, 0)
				row = row[1:]
			}
			checkQueue(t, "a queue gone round", q, room, row)
		}
	}
}

// Promise 4.4: part is taken and part is put, in steps of several sizes.
func TestTakenInTheOrderOfPutBySteps(t *testing.T) {
	for _, room := range rooms() {
		for _, step := range []int{1, 2, 3, 5} {
			q := New(room)
			var row []int
			next := 0
			for turn := range 6 * room {
				for range (turn*step)%(room+1) + step {
					may := len(row) < room
					same(t, "Put", q.Put(next), may)
					if may {
						row = append(row, next)
					}
					next++
				}
				for range (turn+step)%(room+1) + 1 {
					x, is := q.Take()
					sameAt(t, "Take", x, is, row, 0)
					row = row[min(1, len(row)):]
				}
				sameList(t, "behind both", q.List(), row)
			}
			checkQueue(t, "behind all", q, room, row)
		}
	}
}

// step does the call of that number to a queue and to a row, and tells the row behind it: the calls are Put of 0, 1 and 2, and Take.
func step(t *testing.T, q *Ring, room int, row []int, call int) []int {
	t.Helper()
	if call == 3 {
		x, is := q.Take()
		sameAt(t, "Take", x, is, row, 0)
		return row[min(1, len(row)):]
	}
	may := len(row) < room
	same(t, "Put", q.Put(call), may)
	if may {
		return append(slices.Clone(row), call)
	}
	return row
}

// Promises 4.2 to 4.4: all rows of so many calls, of small queues.
func TestAllRowsOfCalls(t *testing.T) {
	for room, length := range []int{5, 7, 7, 8, 8} {
		for number := range 1 << (2 * length) {
			q := New(room)
			var row []int
			for n := range length {
				row = step(t, q, room, row, number>>(2*n)&3)
			}
			checkQueue(t, "behind a row of calls", q, room, row)
			if t.Failed() {
				return
			}
		}
	}
}

// Promises 4.2 to 4.4: a long row of calls, that goes over all of a queue.
func TestLongRowOfCalls(t *testing.T) {
	for _, room := range []int{1, 2, 13, 50} {
		q := New(room)
		var row []int
		seed := uint32(1)
		for turn := range 20000 {
			seed = seed*1664525 + 1013904223
			call := int(seed >> 8 % 4)
			if turn/(2*room)%2 == 0 {
				call = int(seed >> 8 % 3) // fills it
			} else if seed>>20%3 > 0 {
				call = 3 // empties it
			}
			row = step(t, q, room, row, call)
			checkQueue(t, "behind a call", q, room, row)
			if t.Failed() {
				return
			}
		}
	}
}

// Promises 4.1 to 4.4: the greatest queue, full, and gone round.
func TestGreatestQueue(t *testing.T) {
	q := New(greatest)
	for n := range greatest {
		if !q.Put(n) {
			t.Fatalf("Put(%d) is false", n)
		}
	}
	same(t, "Put in a full queue", q.Put(0), false)
	for n := range greatest/2 + 3 {
		x, is := q.Take()
		if x != n || !is || !q.Put(greatest+n) {
			t.Fatalf("Take: %d, %v, or Put is false", x, is)
		}
	}
	same(t, "Len", q.Len(), greatest)
	same(t, "Place of what was taken", q.Place(0), -1)
	same(t, "Place of the last one", q.Place(greatest+greatest/2+2), greatest-1)
	x, is := q.At(greatest - 1)
	same(t, "At of the last place", x, greatest+greatest/2+2)
	same(t, "At: is there one", is, true)
	x, is = q.At(greatest)
	same(t, "At beyond", x, 0)
	same(t, "At beyond: is there one", is, false)
	for n, x := range q.List() {
		if x != greatest/2+3+n {
			t.Fatalf("%d is at place %d", x, n)
		}
	}
}

// The chapter's ways: all are told one by one, and no more of them than one asks for.
func TestAllAreToldOneByOne(t *testing.T) {
	everyQueue(t, func(t *testing.T, room int, row []int, made func() *Ring) {
		q := made()
		for last := range row {
			var told []int
			for place, x := range q.all() {
				same(t, "place", place, len(told))
				told = append(told, x)
				if place == last {
					break
				}
			}
			sameList(t, "what was told", told, row[:last+1])
		}
	})
}

// The chapter's example.
func TestExample(t *testing.T) {
	q := New(2)
	same(t, "Put(7)", q.Put(7), true)
	same(t, "Put(8)", q.Put(8), true)
	same(t, "Put(9)", q.Put(9), false)
	x, is := q.Take()
	same(t, "Take", x, 7)
	same(t, "Take: is there one", is, true)
	same(t, "Put(9)", q.Put(9), true)
	sameList(t, "List", q.List(), []int{8, 9})
}
