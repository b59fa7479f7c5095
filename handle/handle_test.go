package handle

import (
	"math"
	"slices"
	"testing"

	"copyhold/api"
)

// What the numbers of a handle count, and the greatest of them, told here by their numbers: the package's own could be wrong.
const (
	aKind    = 1 << 60
	aPlace   = 1 << 40
	aGen     = 1 << 20
	greatest = 1<<20 - 1
	least    = 1 << 60   // handle
	last     = 1<<62 - 1 // handle
)

// four are the numbers of a handle.
type four struct{ kind, place, gen, off int }

// wrong is what is wrong with the four, by the document's words: OK, if nothing is.
func (n four) wrong() api.Errno {
	if n.kind != 1 && n.kind != 2 && n.kind != 3 {
		return api.ErrKind
	}
	for _, other := range []int{n.place, n.gen, n.off} {
		if other < 0 || other > greatest {
			return api.ErrOver
		}
	}
	return api.OK
}

// number is what the four are together; 0, if something is wrong with them.
func (n four) number() int {
	if n.wrong() != api.OK {
		return 0
	}
	return n.kind*aKind + n.place*aPlace + n.gen*aGen + n.off
}

// parted are the numbers that h has to tell, by its bits, and whether it is a handle.
func parted(h int) (four, bool) {
	if h < least || h > last {
		return four{}, false
	}
	return four{h >> 60, h >> 40 & greatest, h >> 20 & greatest, h & greatest}, true
}

// with is the four with one of them, told by its place among them, another.
func (n four) with(place, number int) four {
	all := [4]int{n.kind, n.place, n.gen, n.off}
	all[place] = number
	return four{all[0], all[1], all[2], all[3]}
}

// checkPut holds a Put against what it has to answer, and gives what it answered.
func checkPut(t *testing.T, n four) int {
	t.Helper()
	h, wrong := Put(n.kind, n.place, n.gen, n.off)
	if h != n.number() || wrong != n.wrong() {
		t.Errorf("Put of %d: %d %d, want %d %d", n, h, wrong, n.number(), n.wrong())
	}
	return h
}

// checkGet holds a Get, and an Is with each kind, against what they have to answer.
func checkGet(t *testing.T, h int) {
	t.Helper()
	want, is := parted(h)
	var got four
	var ok bool
	got.kind, got.place, got.gen, got.off, ok = Get(h)
	if got != want || ok != is {
		t.Errorf("Get(%d): %d %v, want %d %v", h, got, ok, want, is)
	}
	for _, kind := range kinds() {
		if Is(h, kind) != (is && kind == want.kind) {
			t.Errorf("Is(%d, %d): %v", h, kind, !(is && kind == want.kind))
		}
	}
}

// kinds are those of handles, and what is none, near them and far off; among these what would be one if a handle were read with them in it.
func kinds() []int {
	return []int{1, 2, 3, 0, 4, -1, 5, -2, -3, 7, 8, 9, 15, 16, 17, 1<<4 + 1, 1 << 20, 1<<20 + 1, 1 << 60, 1<<60 + 1, 3 << 60, 1<<62 + 1, math.MinInt, math.MinInt + 1, math.MinInt + 2, math.MaxInt - 1, math.MaxInt}
}

// edges are numbers at the edges of the other three, within and beyond them.
func edges() []int {
	return append(within(), -1, -2, -greatest, -greatest-1, greatest+1, greatest+2, 2*greatest+1, 1<<21, 1<<40, -1<<40, 1<<60, -1<<60, math.MinInt, math.MinInt+1, math.MaxInt-1, math.MaxInt)
}

// within are numbers that each of the other three may be.
func within() []int {
	return []int{0, 1, 2, 3, 1<<19 - 1, 1 << 19, greatest - 1, greatest}
}

// good are fours at the edges, of each kind.
func good() []four {
	var list []four
	for kind := 1; kind <= 3; kind++ {
		for _, place := range within() {
			for _, gen := range within() {
				for _, off := range within() {
					list = append(list, four{kind, place, gen, off})
				}
			}
		}
	}
	return list
}

// next is a number that follows on the last one as if by chance.
func next(n uint64) uint64 {
	return n*6364136223846793005 + 1442695040888963407
}

// chance are so many fours that look chosen by chance.
func chance(n int) []four {
	list := make([]four, n)
	seed := uint64(1)
	for i := range list {
		seed = next(seed)
		list[i].kind = int(seed>>33)%3 + 1
		seed = next(seed)
		list[i].place = int(seed >> 44)
		seed = next(seed)
		list[i].gen = int(seed >> 44)
		seed = next(seed)
		list[i].off = int(seed >> 44)
	}
	return list
}

// Promise 7.1: the handle of a few numbers, told by their sums; the first is the chapter's example.
func TestPut(t *testing.T) {
	for _, c := range []struct {
		four
		want int
	}{
		{four{1, 2, 3, 0}, 1<<60 + 1<<41 + 3*(1<<20)},
		{four{1, 0, 0, 0}, 1152921504606846976},
		{four{2, 0, 0, 0}, 2305843009213693952},
		{four{3, 0, 0, 0}, 3458764513820540928},
		{four{1, 0, 0, 1}, 1152921504606846977},
		{four{1, 0, 1, 0}, 1152921504607895552},
		{four{1, 1, 0, 0}, 1152922604118474752},
		{four{2, 5, 6, 7}, 2<<60 + 5<<40 + 6<<20 + 7},
		{four{1, greatest, greatest, greatest}, 1<<61 - 1},
		{four{2, greatest, greatest, greatest}, 3<<60 - 1},
		{four{3, greatest, greatest, greatest}, 4611686018427387903},
		{four{api.HClient, api.MaxPlace, 0, 0}, 1<<61 - 1<<40},
		{four{api.HRegion, 0, api.MaxPlace, 0}, 1<<61 + 1<<40 - 1<<20},
		{four{api.HPiece, 0, 0, api.MaxPlace}, 3<<60 + 1<<20 - 1},
	} {
		if h, wrong := Put(c.kind, c.place, c.gen, c.off); h != c.want || wrong != api.OK {
			t.Errorf("Put of %d: %d %d, want %d 0", c.four, h, wrong, c.want)
		}
	}
}

// Promise 7.1: what is wrong, told by its number, with 0 as the handle; of two errors that of the kind.
func TestPutWrong(t *testing.T) {
	for _, c := range []struct {
		four
		want api.Errno
	}{
		{four{0, 0, 0, 0}, 1},
		{four{4, 0, 0, 0}, 1},
		{four{-1, 5, 6, 7}, 1},
		{four{math.MinInt, 5, 6, 7}, 1},
		{four{math.MaxInt, 5, 6, 7}, 1},
		{four{1, -1, 0, 0}, 6},
		{four{1, 1 << 20, 0, 0}, 6},
		{four{2, 0, -1, 0}, 6},
		{four{2, 0, 1 << 20, 0}, 6},
		{four{3, 0, 0, -1}, 6},
		{four{3, 0, 0, 1 << 20}, 6},
		{four{3, math.MinInt, math.MaxInt, -1}, 6},
		{four{0, -1, 0, 0}, 1},
		{four{4, 0, 1 << 20, 0}, 1},
		{four{5, 0, 0, -1}, 1},
		{four{-1, -1, -1, -1}, 1},
		{four{math.MaxInt, math.MaxInt, math.MaxInt, math.MaxInt}, 1},
		{four{math.MinInt, math.MinInt, math.MinInt, math.MinInt}, 1},
	} {
		if h, wrong := Put(c.kind, c.place, c.gen, c.off); h != 0 || wrong != c.want {
			t.Errorf("Put of %d: %d %d, want 0 %d", c.four, h, wrong, c.want)
		}
	}
}

// Promise 7.1: every kind with each of the others at its edges, within and beyond, alone and together.
func TestPutEdges(t *testing.T) {
	for _, kind := range kinds() {
		for _, place := range edges() {
			for _, gen := range edges() {
				for _, off := range edges() {
					checkPut(t, four{kind, place, gen, off})
				}
			}
		}
	}
}

// Promises 7.1 and 7.3: each number through all that it may be, the others at an edge, there and back.
func TestEachNumber(t *testing.T) {
	for place := 1; place <= 3; place++ {
		for _, n := range []four{{1, 0, 0, 0}, {2, greatest, greatest, greatest}} {
			before := checkPut(t, n.with(place, 0))
			for number := 1; number <= greatest; number++ {
				all := n.with(place, number)
				h := checkPut(t, all)
				if h <= before {
					t.Errorf("Put of %d: %d, not above that of one less", all, h)
				}
				kind, place, gen, off, ok := Get(h)
				if got := (four{kind, place, gen, off}); got != all || !ok {
					t.Errorf("Get(%d): %d %v, want %d true", h, got, ok, all)
				}
				before = h
			}
		}
	}
}

// Promise 7.2: the numbers of a few handles, told one by one; the first is that of the chapter's example.
func TestGet(t *testing.T) {
	for _, c := range []struct {
		h int
		four
	}{
		{1<<60 + 1<<41 + 3*(1<<20), four{1, 2, 3, 0}},
		{1152921504606846976, four{1, 0, 0, 0}},
		{1152921504606846977, four{1, 0, 0, 1}},
		{2305843009213693951, four{1, greatest, greatest, greatest}},
		{2305843009213693952, four{2, 0, 0, 0}},
		{3458764513820540927, four{2, greatest, greatest, greatest}},
		{3458764513820540928, four{3, 0, 0, 0}},
		{4611686018427387903, four{3, greatest, greatest, greatest}},
		{3<<60 + 4<<40 + 5<<20 + 6, four{3, 4, 5, 6}},
	} {
		kind, place, gen, off, ok := Get(c.h)
		if got := (four{kind, place, gen, off}); got != c.four || !ok {
			t.Errorf("Get(%d): %d %v, want %d true", c.h, got, ok, c.four)
		}
	}
}

// Promise 7.2: what is no handle has four times 0 and false, and is a handle of no kind.
func TestGetNone(t *testing.T) {
	for _, h := range []int{
		0, 1, -1, 2, 3, 4, greatest, greatest + 1, 1 << 40, 1<<40 - 1, 1<<59 + 5, 1<<60 - 1, 1<<60 - 2, 1<<60 - 1<<20, 1<<60 - 1<<40,
		1 << 62, 1<<62 + 1, 1<<62 + 1<<20, 1<<62 + 1<<40, 5 << 60, 5<<60 - 1, 6 << 60, 7 << 60, 7<<60 + 2<<40 + 3<<20, math.MaxInt - 1, math.MaxInt,
		-1 << 60, -1<<60 - 1, -1<<60 + 1, -2 << 60, -3 << 60, -3<<60 - 5, -4 << 60, -4<<60 - 1, -5 << 60, math.MinInt, math.MinInt + 1, math.MinInt + 1<<60, math.MinInt + 1<<61,
	} {
		if kind, place, gen, off, ok := Get(h); kind != 0 || place != 0 || gen != 0 || off != 0 || ok {
			t.Errorf("Get(%d): %d %d %d %d %v, want 0 0 0 0 false", h, kind, place, gen, off, ok)
		}
		for _, kind := range append(kinds(), h>>60, h/aKind, h) {
			if Is(h, kind) {
				t.Errorf("Is(%d, %d): true", h, kind)
			}
		}
	}
}

// Promise 7.2: numbers about each edge: of the least and the greatest handle, between the kinds, and where the others go over.
func TestGetEdges(t *testing.T) {
	for kind := -8; kind <= 7; kind++ {
		for _, about := range []int{0, 1 << 20, 1 << 40, 1<<40 + 1<<20, 1<<59 + 1<<39 + 1<<19} {
			for n := -300; n <= 300; n++ {
				checkGet(t, kind*aKind+about+n)
				checkGet(t, kind*aKind-about+n)
			}
		}
	}
	for n := range 300 {
		checkGet(t, math.MinInt+n)
		checkGet(t, math.MaxInt-n)
	}
}

// Promise 7.2: what looks chosen by chance, handles and others, and every power of two with what is beside it.
func TestGetChance(t *testing.T) {
	seed := uint64(7)
	for range 50000 {
		seed = next(seed)
		checkGet(t, int(seed^seed>>29))
	}
	for power := range 63 {
		for _, n := range []int{1 << power, 1<<power - 1, 1<<power + 1} {
			checkGet(t, n)
			checkGet(t, -n)
		}
	}
}

// Promise 7.2: a handle is of its own kind, and of no other.
func TestIs(t *testing.T) {
	for _, c := range []struct {
		h, kind int
		want    bool
	}{
		{1 << 60, 1, true},
		{1 << 60, 2, false},
		{1 << 60, 3, false},
		{1 << 60, 0, false},
		{2<<60 - 1, 1, true},
		{2<<60 - 1, 2, false},
		{2 << 60, 1, false},
		{2 << 60, 2, true},
		{2 << 60, 3, false},
		{3<<60 - 1, 2, true},
		{3 << 60, 2, false},
		{3 << 60, 3, true},
		{3 << 60, 4, false},
		{4<<60 - 1, 3, true},
		{4<<60 - 1, 0, false},
		{4 << 60, 4, false},
		{4 << 60, 3, false},
		{0, 0, false},
		{1, 1, false},
		{1<<60 - 1, 0, false},
		{1<<60 - 1, 1, false},
		{-1, -1, false},
		{-1, 0, false},
		{-1 << 60, -1, false},
		{math.MinInt, -8, false},
		{math.MaxInt, 7, false},
	} {
		if Is(c.h, c.kind) != c.want {
			t.Errorf("Is(%d, %d): %v", c.h, c.kind, !c.want)
		}
	}
}

// Promise 7.3: what was put is got, and what was got is put again.
func TestThereAndBack(t *testing.T) {
	for _, n := range append(good(), chance(50000)...) {
		h := checkPut(t, n)
		kind, place, gen, off, ok := Get(h)
		if got := (four{kind, place, gen, off}); got != n || !ok {
			t.Errorf("Get(%d): %d %v, want %d true", h, got, ok, n)
		}
		if again, wrong := Put(kind, place, gen, off); again != h || wrong != api.OK {
			t.Errorf("Put of what Get(%d) gave: %d %d", h, again, wrong)
		}
		for _, kind := range kinds() {
			if Is(h, kind) != (kind == n.kind) {
				t.Errorf("Is(%d, %d): %v", h, kind, kind != n.kind)
			}
		}
	}
}

// Promise 7.3: Put of what Get gives is the same number again, about the edges of each kind.
func TestBackAndThere(t *testing.T) {
	for kind := 1; kind <= 3; kind++ {
		for n := range 5000 {
			for _, h := range []int{kind*aKind + n, (kind+1)*aKind - 1 - n, kind*aKind + n*(aPlace+1), kind*aKind + n*(aGen+1)} {
				kind, place, gen, off, ok := Get(h)
				if again, wrong := Put(kind, place, gen, off); again != h || wrong != api.OK || !ok {
					t.Errorf("Put of what Get(%d) gave: %d %d, %v", h, again, wrong, ok)
				}
			}
		}
	}
}

// Promise 7.3: handles are above 0, and two that differ in one number alone are unlike; so are all of these.
func TestUnlike(t *testing.T) {
	of := map[int]four{}
	for _, n := range good() {
		h := checkPut(t, n)
		if h <= 0 {
			t.Errorf("Put of %d: %d, not above 0", n, h)
		}
		if other, is := of[h]; is {
			t.Errorf("Put of %d and of %d: both %d", n, other, h)
		}
		of[h] = n
	}
	for _, n := range chance(2000) {
		for place := range 4 {
			for _, number := range append(within(), n.place, n.gen, n.off) {
				checkUnlike(t, n, n.with(place, number))
			}
		}
	}
}

// checkUnlike holds the handles of two fours to be unlike, if they are.
func checkUnlike(t *testing.T, n, other four) {
	t.Helper()
	if n == other || other.wrong() != api.OK {
		return
	}
	if h := checkPut(t, n); h == checkPut(t, other) {
		t.Errorf("Put of %d and of %d: both %d", n, other, h)
	}
}

// Promise 7.3: handles rise as their numbers do, that which counts most first, from the least handle to the greatest.
func TestOrder(t *testing.T) {
	list := append(good(), chance(20000)...)
	slices.SortFunc(list, func(a, b four) int {
		return slices.Compare([]int{a.kind, a.place, a.gen, a.off}, []int{b.kind, b.place, b.gen, b.off})
	})
	list = slices.Compact(list)
	before := least - 1
	for _, n := range list {
		h := checkPut(t, n)
		if h <= before || h > last {
			t.Errorf("Put of %d: %d, not between %d and %d", n, h, before, last)
		}
		before = h
	}
	if first := checkPut(t, list[0]); first != least || before != last {
		t.Errorf("the least handle is %d, the greatest %d", first, before)
	}
}

// What is put and got once does not change what is put and got later.
func TestNothingIsKept(t *testing.T) {
	for range 3 {
		checkPut(t, four{1, 2, 3, 0})
		checkPut(t, four{4, -1, -1, -1})
		checkPut(t, four{3, greatest, 0, greatest})
		checkPut(t, four{2, 0, greatest + 1, 0})
		checkGet(t, least+5)
		checkGet(t, 0)
		checkGet(t, last)
		checkGet(t, last+1)
	}
}
