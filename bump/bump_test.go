package bump

import (
	"math"
	"testing"

	"copyhold/api"
)

// placed is what a Place answers.
type placed struct {
	at, next int
	wrong    api.Errno
}

// asked is what is handed to Place.
type asked struct{ cursor, size, align, chunk int }

// power tells whether n is a power of two, by doubling.
func power(n int) bool {
	p := 1
	for p < n && p < 1<<62 {
		p *= 2
	}
	return p == n
}

// reach is the least multiple of align that is the cursor or more, and how many bytes ahead of it are skipped; both are right while the cursor is 0 or more and align a power of two. The multiple may be 2^63, that is no int.
func reach(cursor, align int) (multiple, skipped uint64) {
	over := uint64(cursor) % uint64(align)
	if over > 0 {
		skipped = uint64(align) - over
	}
	return uint64(cursor) + skipped, skipped
}

// want is what Place has to answer, by the document's words, with numbers that go up to 2^64 - 1.
func (a asked) want() placed {
	if a.cursor < 0 || a.size < 1 || a.chunk < 1 || !power(a.align) {
		return placed{wrong: api.ErrArg}
	}
	if a.size > a.chunk || a.align > a.chunk {
		return placed{wrong: api.ErrSize}
	}
	at, _ := reach(a.cursor, a.align)
	next := at + uint64(a.size)
	if at > math.MaxInt || next > math.MaxInt {
		return placed{wrong: api.ErrOver}
	}
	if next > uint64(a.chunk) {
		return placed{wrong: api.ErrDry}
	}
	return placed{at: int(at), next: int(next)}
}

// answer is what Place answers.
func (a asked) answer() placed {
	at, next, wrong := Place(a.cursor, a.size, a.align, a.chunk)
	return placed{at, next, wrong}
}

// checkAnswer holds a Place against what is wanted of it, that is told by itself, and gives what it answered.
func checkAnswer(t *testing.T, a asked, want placed) placed {
	t.Helper()
	got := a.answer()
	if got != want {
		t.Errorf("Place(%d, %d, %d, %d): %d, want %d", a.cursor, a.size, a.align, a.chunk, got, want)
	}
	return got
}

// checkPlace holds a Place against what it has to answer, and gives what it answered.
func checkPlace(t *testing.T, a asked) placed {
	t.Helper()
	return checkAnswer(t, a, a.want())
}

// checkWaste holds a Waste against what it has to answer, by the document's words.
func checkWaste(t *testing.T, cursor, align int) {
	t.Helper()
	want := 0
	if cursor >= 0 && power(align) {
		if multiple, skipped := reach(cursor, align); multiple <= math.MaxInt {
			want = int(skipped)
		}
	}
	if got := Waste(cursor, align); got != want {
		t.Errorf("Waste(%d, %d): %d, want %d", cursor, align, got, want)
	}
}

// powers are all powers of two that are ints.
func powers() []int {
	var list []int
	for k := range 63 {
		list = append(list, 1<<k)
	}
	return list
}

// about are each of the numbers, and those one more and one less, as far as they are ints.
func about(numbers ...int) []int {
	var list []int
	for _, n := range numbers {
		for by := -1; by <= 1; by++ {
			if sum := n + by; (sum > n) == (by > 0) {
				list = append(list, sum)
			}
		}
	}
	return list
}

// edges are numbers about those that the document names, within and beyond.
func edges() []int {
	return append(about(0, 3, 64, 128, 1<<20, 1<<40, 1<<62, math.MaxInt-63, math.MaxInt), math.MinInt, math.MinInt+1, -1<<62, -64, -2, 8, 32, 48, 1<<61, 3<<61)
}

// next is a number that follows on the last one as if by chance.
func next(n uint64) uint64 {
	return n*6364136223846793005 + 1442695040888963407
}

// chance gives numbers that look chosen by chance, of all magnitudes, below 0 as above.
func chance(seed uint64) func() int {
	return func() int {
		seed = next(seed)
		n := int(seed)
		seed = next(seed)
		return n >> (seed >> 58)
	}
}

// Promise 9.1: where a few come, and the cursor behind them, told by their numbers; the first is the chapter's example.
func TestPlace(t *testing.T) {
	for _, c := range []struct {
		asked
		at, next int
	}{
		{asked{5, 3, 4, 64}, 8, 11},
		{asked{0, 1, 1, 1}, 0, 1},
		{asked{0, 1, 1, 64}, 0, 1},
		{asked{1, 1, 1, 64}, 1, 2},
		{asked{1, 1, 2, 64}, 2, 3},
		{asked{1, 1, 64, 65}, 64, 65},
		{asked{3, 5, 4, 64}, 4, 9},
		{asked{4, 5, 4, 64}, 4, 9},
		{asked{5, 5, 4, 64}, 8, 13},
		{asked{7, 5, 4, 64}, 8, 13},
		{asked{8, 5, 4, 64}, 8, 13},
		{asked{9, 5, 4, 64}, 12, 17},
		{asked{10, 8, 8, 64}, 16, 24},
		{asked{17, 7, 16, 100}, 32, 39},
		{asked{0, 64, 64, 64}, 0, 64},
		{asked{0, 64, 1, 64}, 0, 64},
		{asked{0, 1, 64, 64}, 0, 1},
		{asked{63, 1, 1, 64}, 63, 64},
		{asked{62, 1, 1, 64}, 62, 63},
		{asked{60, 4, 4, 64}, 60, 64},
		{asked{57, 4, 4, 64}, 60, 64},
		{asked{65, 36, 64, 164}, 128, 164},
		{asked{1000, 24, 8, 1024}, 1000, 1024},
		{asked{1<<20 - 1, 1, 1, 1 << 20}, 1<<20 - 1, 1 << 20},
		{asked{1, 1, 1 << 62, math.MaxInt}, 1 << 62, 1<<62 + 1},
		{asked{1 << 62, 1<<62 - 1, 1 << 62, math.MaxInt}, 1 << 62, math.MaxInt},
		{asked{0, math.MaxInt, 1, math.MaxInt}, 0, math.MaxInt},
		{asked{0, math.MaxInt, 1 << 62, math.MaxInt}, 0, math.MaxInt},
		{asked{math.MaxInt - 1, 1, 1, math.MaxInt}, math.MaxInt - 1, math.MaxInt},
		{asked{math.MaxInt - 2, 1, 2, math.MaxInt}, math.MaxInt - 1, math.MaxInt},
	} {
		checkAnswer(t, c.asked, placed{c.at, c.next, 0})
	}
}

// Promise 9.1: each number that may not be, by itself, with 0 for both others.
func TestPlaceArg(t *testing.T) {
	for _, n := range []int{-1, -2, -64, -1 << 40, math.MinInt, math.MinInt + 1} {
		checkAnswer(t, asked{n, 3, 4, 64}, placed{wrong: 2})
		checkAnswer(t, asked{5, n, 4, 64}, placed{wrong: 2})
		checkAnswer(t, asked{5, 3, n, 64}, placed{wrong: 2})
		checkAnswer(t, asked{5, 3, 4, n}, placed{wrong: 2})
	}
	checkAnswer(t, asked{0, 3, 4, 64}, placed{0, 3, 0})
	checkAnswer(t, asked{5, 0, 4, 64}, placed{wrong: 2})
	checkAnswer(t, asked{5, 1, 4, 64}, placed{8, 9, 0})
	checkAnswer(t, asked{5, 3, 0, 64}, placed{wrong: 2})
	checkAnswer(t, asked{5, 3, 1, 64}, placed{5, 8, 0})
	checkAnswer(t, asked{5, 3, 4, 0}, placed{wrong: 2})
	checkAnswer(t, asked{0, 1, 1, 0}, placed{wrong: 2})
	for _, align := range []int{3, 5, 6, 7, 9, 12, 24, 31, 33, 48, 63} {
		checkAnswer(t, asked{0, 1, align, 64}, placed{wrong: 2})
	}
	for _, align := range []int{1<<62 - 1, 1<<62 + 1, 3 << 61, math.MaxInt - 1, math.MaxInt} {
		checkAnswer(t, asked{0, 1, align, math.MaxInt}, placed{wrong: 2})
	}
}

// Promise 9.1: a size or an align above the chunk; a chunk that is no power of two, too.
func TestPlaceSize(t *testing.T) {
	for _, c := range []struct {
		asked
		want placed
	}{
		{asked{0, 64, 1, 64}, placed{0, 64, 0}},
		{asked{0, 65, 1, 64}, placed{wrong: 5}},
		{asked{0, 1 << 40, 1, 64}, placed{wrong: 5}},
		{asked{0, math.MaxInt, 1, 64}, placed{wrong: 5}},
		{asked{0, 1, 64, 64}, placed{0, 1, 0}},
		{asked{0, 1, 128, 64}, placed{wrong: 5}},
		{asked{0, 1, 1 << 62, 64}, placed{wrong: 5}},
		{asked{0, 65, 128, 64}, placed{wrong: 5}},
		{asked{0, 2, 1, 1}, placed{wrong: 5}},
		{asked{0, 1, 2, 1}, placed{wrong: 5}},
		{asked{0, 100, 64, 100}, placed{0, 100, 0}},
		{asked{0, 101, 64, 100}, placed{wrong: 5}},
		{asked{0, 1, 128, 100}, placed{wrong: 5}},
		{asked{0, 1, 64, 63}, placed{wrong: 5}},
		{asked{0, math.MaxInt - 1, 1, math.MaxInt - 1}, placed{0, math.MaxInt - 1, 0}},
		{asked{0, math.MaxInt, 1, math.MaxInt - 1}, placed{wrong: 5}},
		{asked{0, 1, 1 << 62, 1 << 62}, placed{0, 1, 0}},
		{asked{0, 1, 1 << 62, 1<<62 - 1}, placed{wrong: 5}},
	} {
		checkAnswer(t, c.asked, c.want)
	}
}

// Promise 9.1: of each power of two the last multiple that is an int, and the last size that still fits behind it; one more of each is ErrOver.
func TestPlaceOver(t *testing.T) {
	for _, align := range powers()[1:] {
		last := math.MaxInt - (align - 1)
		for _, cursor := range []int{last, last - 1, last - align/2, last - (align - 1)} {
			checkAnswer(t, asked{cursor, align - 1, align, math.MaxInt}, placed{last, math.MaxInt, 0})
			checkAnswer(t, asked{cursor, align, align, math.MaxInt}, placed{wrong: 6})
			checkAnswer(t, asked{cursor, math.MaxInt, align, math.MaxInt}, placed{wrong: 6})
			checkAnswer(t, asked{cursor, align - 1, align, math.MaxInt - 1}, placed{wrong: 9})
			checkAnswer(t, asked{cursor, align - 1, align, align}, placed{wrong: 9})
			checkAnswer(t, asked{cursor, align, align, align}, placed{wrong: 6})
		}
		for _, cursor := range []int{last + 1, last + align/2, math.MaxInt} {
			checkAnswer(t, asked{cursor, 1, align, math.MaxInt}, placed{wrong: 6})
			checkAnswer(t, asked{cursor, 1, align, align}, placed{wrong: 6})
		}
	}
	checkAnswer(t, asked{math.MaxInt, 1, 1, math.MaxInt}, placed{wrong: 6})
	checkAnswer(t, asked{math.MaxInt, 1, 1, 1}, placed{wrong: 6})
	checkAnswer(t, asked{math.MaxInt - 1, 1, 1, 1}, placed{wrong: 9})
	checkAnswer(t, asked{1, math.MaxInt, 1, math.MaxInt}, placed{wrong: 6})
	checkAnswer(t, asked{1, math.MaxInt - 1, 1, math.MaxInt}, placed{1, math.MaxInt, 0})
	checkAnswer(t, asked{1, math.MaxInt - 1, 2, math.MaxInt}, placed{wrong: 6})
	checkAnswer(t, asked{1, math.MaxInt - 1, 1, math.MaxInt - 1}, placed{wrong: 9})
	checkAnswer(t, asked{1<<62 + 1, 1, 1 << 62, math.MaxInt}, placed{wrong: 6})
	checkAnswer(t, asked{1<<62 + 1, 1, 1 << 62, 1 << 62}, placed{wrong: 6})
	checkAnswer(t, asked{1 << 62, 1 << 62, 1 << 62, 1 << 62}, placed{wrong: 6})
	checkAnswer(t, asked{1 << 62, 1<<62 - 1, 1 << 62, 1 << 62}, placed{wrong: 9})
}

// Promise 9.1: what just fills the chunk, and what is one byte too many; a cursor at the chunk's end and beyond it.
func TestPlaceDry(t *testing.T) {
	for _, chunk := range []int{1, 2, 3, 7, 63, 64, 65, 100, 1<<20 - 1, 1 << 20, 1 << 40, math.MaxInt - 1} {
		for _, size := range []int{1, 2, 3, chunk / 2, chunk - 1, chunk} {
			if size < 1 || size > chunk {
				continue
			}
			checkAnswer(t, asked{chunk - size, size, 1, chunk}, placed{chunk - size, chunk, 0})
			checkAnswer(t, asked{chunk - size + 1, size, 1, chunk}, placed{wrong: 9})
		}
		for _, cursor := range []int{chunk, chunk + 1, min(chunk, math.MaxInt/2) * 2} {
			for _, align := range []int{1, 2, 64} {
				checkPlace(t, asked{cursor, 1, align, chunk})
			}
		}
	}
	for _, c := range []asked{
		{64, 1, 1, 64}, {65, 1, 1, 64}, {64, 64, 64, 64}, {1, 64, 1, 64}, {1, 1, 64, 64}, {61, 1, 4, 64}, {57, 5, 4, 64}, {60, 5, 4, 64}, {1 << 40, 1, 1, 64},
		{math.MaxInt - 1, 1, 1, 64}, {math.MaxInt - 1, 1, 1, math.MaxInt - 1}, {1, 35, 64, 98}, {97, 2, 2, 99},
	} {
		checkAnswer(t, c, placed{wrong: 9})
	}
	checkAnswer(t, asked{1, 34, 64, 98}, placed{64, 98, 0})
	checkAnswer(t, asked{97, 1, 2, 99}, placed{98, 99, 0})
}

// Promise 9.1: where two or more things are wrong, that is told which the chapter tells first.
func TestPlaceOrder(t *testing.T) {
	for _, c := range []struct {
		asked
		want api.Errno
	}{
		// ErrArg ahead of ErrSize.
		{asked{-1, 65, 1, 64}, 2},
		{asked{-1, 1, 128, 64}, 2},
		{asked{0, 0, 128, 64}, 2},
		{asked{0, -5, 128, 64}, 2},
		{asked{0, 65, 0, 64}, 2},
		{asked{0, 65, 3, 64}, 2},
		{asked{0, 1, 65, 64}, 2},
		{asked{0, 1, 129, 64}, 2},
		{asked{0, 1, 1, 0}, 2},
		{asked{0, 1, 1, -1}, 2},
		{asked{0, 1, 1, math.MinInt}, 2},
		{asked{0, 65, -128, 64}, 2},
		// ErrArg ahead of ErrOver.
		{asked{math.MaxInt, 1, 3, 64}, 2},
		{asked{math.MaxInt, 1, 0, 64}, 2},
		{asked{math.MaxInt, 1, math.MinInt, math.MaxInt}, 2},
		{asked{math.MaxInt, 0, 2, 64}, 2},
		{asked{math.MaxInt, math.MinInt, 2, 64}, 2},
		{asked{math.MaxInt, -1, 64, 64}, 2},
		// ErrArg ahead of ErrDry.
		{asked{64, 0, 1, 64}, 2},
		{asked{65, 0, 1, 64}, 2},
		{asked{65, -1, 1, 64}, 2},
		{asked{64, 1, 6, 64}, 2},
		{asked{64, 1, -2, 64}, 2},
		// ErrSize ahead of ErrOver.
		{asked{math.MaxInt, 65, 1, 64}, 5},
		{asked{math.MaxInt, 65, 2, 64}, 5},
		{asked{math.MaxInt, 1, 128, 64}, 5},
		{asked{math.MaxInt, math.MaxInt, 1, math.MaxInt - 1}, 5},
		{asked{1<<62 + 1, 1, 1 << 62, 1<<62 - 1}, 5},
		// ErrSize ahead of ErrDry.
		{asked{0, 65, 1, 64}, 5},
		{asked{64, 65, 1, 64}, 5},
		{asked{65, 1, 128, 64}, 5},
		{asked{1, 1, 128, 64}, 5},
		{asked{1 << 40, 1 << 40, 1, 64}, 5},
		// ErrOver ahead of ErrDry.
		{asked{math.MaxInt, 1, 1, 64}, 6},
		{asked{math.MaxInt - 1, 2, 1, 64}, 6},
		{asked{math.MaxInt, 1, 64, 64}, 6},
		{asked{math.MaxInt - 62, 1, 64, 64}, 6},
		{asked{math.MaxInt - 63, 64, 64, 64}, 6},
		{asked{math.MaxInt - 63, 63, 64, 64}, 9},
		// Three and four of them.
		{asked{math.MaxInt, 65, 3, 64}, 2},
		{asked{-1, 65, 128, 64}, 2},
		{asked{math.MaxInt, 0, 128, 64}, 2},
		{asked{math.MaxInt, math.MaxInt, 1 << 62, 0}, 2},
		{asked{math.MaxInt, math.MaxInt, math.MaxInt, math.MaxInt}, 2},
		{asked{math.MinInt, math.MinInt, math.MinInt, math.MinInt}, 2},
		{asked{math.MaxInt, math.MaxInt, 1 << 62, 64}, 5},
		{asked{math.MaxInt, math.MaxInt, 1 << 62, math.MaxInt}, 6},
	} {
		checkAnswer(t, c.asked, placed{wrong: c.want})
	}
}

// Promise 9.1: all small numbers, held against what is found by counting on from the cursor.
func TestPlaceSmall(t *testing.T) {
	for cursor := -2; cursor <= 40; cursor++ {
		for align := -2; align <= 34; align++ {
			at := max(cursor, 0)
			for align > 0 && at%align != 0 {
				at++
			}
			for size := -2; size <= 34; size++ {
				for chunk := -2; chunk <= 34; chunk++ {
					got := checkPlace(t, asked{cursor, size, align, chunk})
					if got.wrong == api.OK && (got.at != at || got.next != at+size) {
						t.Errorf("Place(%d, %d, %d, %d): %d, want at %d", cursor, size, align, chunk, got, at)
					}
				}
			}
		}
	}
}

// Promise 9.1: every number at its edges, within and beyond, alone and together.
func TestPlaceEdges(t *testing.T) {
	numbers := edges()
	for _, cursor := range numbers {
		for _, size := range numbers {
			for _, align := range numbers {
				for _, chunk := range numbers {
					checkPlace(t, asked{cursor, size, align, chunk})
				}
			}
		}
	}
}

// Promise 9.1: every power of two as an align, with cursors about its multiples and chunks about what comes behind.
func TestPlacePowers(t *testing.T) {
	for _, align := range powers() {
		for _, times := range []int{0, 1, 2, 3, math.MaxInt/align - 1, math.MaxInt / align} {
			if times > math.MaxInt/align {
				continue
			}
			for _, cursor := range about(times * align) {
				for _, size := range about(0, align/2, align) {
					for _, chunk := range about(align, cursor, cursor+size, math.MaxInt) {
						checkPlace(t, asked{cursor, size, align, chunk})
					}
				}
			}
		}
	}
}

// Promises 9.1 and 9.2: numbers that look chosen by chance, of all magnitudes, most often with an align that is a power of two.
func TestChance(t *testing.T) {
	number := chance(3)
	for n := range 100000 {
		a := asked{number(), number(), number(), number()}
		if n%8 > 0 {
			a.align = 1 << (uint(a.align) % 63)
		}
		if n%8 > 2 {
			a.cursor, a.size, a.chunk = a.cursor&math.MaxInt, a.size&math.MaxInt, a.chunk&math.MaxInt
		}
		checkPlace(t, a)
		checkWaste(t, a.cursor, a.align)
	}
}

// Promise 9.2: how many bytes are skipped of a few, told by their numbers.
func TestWaste(t *testing.T) {
	for _, c := range []struct{ cursor, align, want int }{
		{5, 4, 3},
		{0, 1, 0},
		{1, 1, 0},
		{0, 64, 0},
		{1, 2, 1},
		{2, 2, 0},
		{3, 4, 1},
		{4, 4, 0},
		{6, 4, 2},
		{7, 4, 1},
		{8, 4, 0},
		{9, 4, 3},
		{1, 64, 63},
		{63, 64, 1},
		{64, 64, 0},
		{65, 64, 63},
		{127, 64, 1},
		{128, 64, 0},
		{1 << 40, 1 << 41, 1 << 40},
		{math.MaxInt, 1, 0},
		{math.MaxInt - 1, 1, 0},
		{math.MaxInt - 1, 2, 0},
		{math.MaxInt - 2, 2, 1},
		{math.MaxInt - 63, 64, 0},
		{math.MaxInt - 64, 64, 1},
		{math.MaxInt - 126, 64, 63},
		{math.MaxInt - 127, 64, 0},
		{0, 1 << 62, 0},
		{1, 1 << 62, 1<<62 - 1},
		{1<<62 - 1, 1 << 62, 1},
		{1 << 62, 1 << 62, 0},
	} {
		if got := Waste(c.cursor, c.align); got != c.want {
			t.Errorf("Waste(%d, %d): %d, want %d", c.cursor, c.align, got, c.want)
		}
	}
}

// Promise 9.2: 0, where the cursor is below 0, align is no power of two, or no such multiple fits.
func TestWasteNone(t *testing.T) {
	for _, c := range []struct{ cursor, align int }{
		{-1, 4}, {-1, 1}, {-3, 4}, {-5, 64}, {-1 << 62, 1 << 62}, {math.MinInt, 4}, {math.MinInt + 1, 4}, {math.MinInt, 1 << 62}, {math.MinInt + 1, 1 << 62},
		{5, 0}, {5, -1}, {5, -4}, {5, -64}, {5, math.MinInt}, {5, math.MinInt + 1}, {5, 3}, {5, 6}, {5, 7}, {5, 12}, {5, 63}, {5, 65}, {5, 1<<62 - 1}, {5, 1<<62 + 1}, {5, 3 << 61}, {5, math.MaxInt}, {5, math.MaxInt - 1},
		{0, 0}, {0, 3}, {-1, 0}, {-1, -1}, {-1, 3}, {math.MinInt, math.MinInt}, {math.MaxInt, math.MaxInt}, {math.MaxInt, 0}, {math.MaxInt, math.MinInt},
		{math.MaxInt, 2}, {math.MaxInt, 4}, {math.MaxInt, 64}, {math.MaxInt, 1 << 62}, {math.MaxInt - 1, 4}, {math.MaxInt - 2, 4}, {math.MaxInt - 62, 64}, {1<<62 + 1, 1 << 62}, {3 << 61, 1 << 62},
	} {
		if got := Waste(c.cursor, c.align); got != 0 {
			t.Errorf("Waste(%d, %d): %d, want 0", c.cursor, c.align, got)
		}
	}
}

// Promise 9.2: all small numbers, by counting on from the cursor; the edges and the powers of two as Place has them.
func TestWasteAll(t *testing.T) {
	for cursor := range 300 {
		for _, align := range []int{1, 2, 4, 8, 16, 32, 64, 128, 256, 512} {
			skipped := 0
			for (cursor+skipped)%align != 0 {
				skipped++
			}
			if got := Waste(cursor, align); got != skipped {
				t.Errorf("Waste(%d, %d): %d, want %d", cursor, align, got, skipped)
			}
		}
	}
	for _, cursor := range edges() {
		for _, align := range append(edges(), powers()...) {
			checkWaste(t, cursor, align)
		}
	}
	for _, align := range powers() {
		for _, cursor := range about(0, align/2, align, math.MaxInt-align, math.MaxInt-(align-1), math.MaxInt) {
			checkWaste(t, cursor, align)
		}
	}
}

// Promises 9.2 and 9.3: Place's at is the cursor and Waste; less than align is skipped, and nothing where the cursor is a multiple already.
func TestPlaceIsWaste(t *testing.T) {
	number := chance(9)
	for range 50000 {
		cursor, align := number()&math.MaxInt, 1<<(uint(number())%63)
		at, _, wrong := Place(cursor, 1, align, math.MaxInt)
		skipped := Waste(cursor, align)
		if wrong != api.OK {
			if multiple, _ := reach(cursor, align); multiple < math.MaxInt {
				t.Errorf("Place(%d, 1, %d, MaxInt): wrong %d", cursor, align, wrong)
			}
			continue
		}
		if at != cursor+skipped || skipped < 0 || skipped >= align || Waste(at, align) != 0 {
			t.Errorf("cursor %d, align %d: at %d, waste %d, behind it %d", cursor, align, at, skipped, Waste(at, align))
		}
	}
}

// lay places pieces, whose sizes and aligns are told by the function, one behind the other in a chunk, till as many were refused in a row as may be, and marks their bytes. It tells how many were laid.
func lay(t *testing.T, chunk, refusals int, piece func() (size, align int)) int {
	t.Helper()
	laid := make([]bool, chunk)
	cursor, count := 0, 0
	for refused := 0; refused < refusals; {
		size, align := piece()
		got := checkPlace(t, asked{cursor, size, align, chunk})
		if got.wrong != api.OK {
			refused++
			continue
		}
		refused = 0
		if got.at < cursor || got.at%align != 0 || got.at-cursor != Waste(cursor, align) || got.next-got.at != size {
			t.Errorf("size %d, align %d behind %d in %d: %d", size, align, cursor, chunk, got)
		}
		for i := got.at; i < got.next; i++ {
			if laid[i] {
				t.Fatalf("size %d, align %d behind %d in %d: byte %d is laid already", size, align, cursor, chunk, i)
			}
			laid[i] = true
		}
		cursor = got.next
		count++
	}
	return count
}

// Promise 9.3: what is placed one behind the other does not meet, and each stands at a multiple of its align, whatever the sizes and aligns.
func TestBehindEachOther(t *testing.T) {
	number := chance(5)
	for _, chunk := range []int{1, 2, 63, 64, 65, 100, 1000, 1 << 12, 1 << 16} {
		for range 200 {
			lay(t, chunk, 20, func() (int, int) { return number() & 31, 1 << (uint(number()) % 8) })
		}
		if got := lay(t, chunk, 1, func() (int, int) { return 1, 1 }); got != chunk {
			t.Errorf("%d pieces of one byte in %d", got, chunk)
		}
	}
	for _, c := range []struct{ chunk, size, align, want int }{
		{64, 1, 1, 64}, {64, 1, 4, 16}, {64, 3, 4, 16}, {64, 4, 4, 16}, {64, 5, 4, 8}, {64, 5, 1, 12}, {64, 33, 1, 1}, {64, 32, 32, 2}, {64, 1, 64, 1}, {65, 1, 64, 2}, {64, 65, 1, 0}, {64, 1, 128, 0},
	} {
		if got := lay(t, c.chunk, 1, func() (int, int) { return c.size, c.align }); got != c.want {
			t.Errorf("%d of size %d and align %d in %d, want %d", got, c.size, c.align, c.chunk, c.want)
		}
	}
}

// Promise 9.3: a chunk that is full for one has room for a smaller one still; what is refused moves nothing.
func TestRefused(t *testing.T) {
	checkAnswer(t, asked{50, 16, 16, 64}, placed{wrong: 9})
	checkAnswer(t, asked{50, 14, 2, 64}, placed{50, 64, 0})
	checkAnswer(t, asked{50, 15, 1, 64}, placed{wrong: 9})
	checkAnswer(t, asked{50, 14, 1, 64}, placed{50, 64, 0})
}

// Promise 9.3: an empty chunk has room for all that is not too large, at its beginning.
func TestEmptyChunk(t *testing.T) {
	for chunk := 1; chunk <= 130; chunk++ {
		for size := 1; size <= chunk; size++ {
			for align := 1; align <= chunk; align *= 2 {
				checkAnswer(t, asked{0, size, align, chunk}, placed{0, size, 0})
			}
		}
	}
	for _, chunk := range []int{1 << 20, 1<<20 + 1, 1 << 40, 1 << 62, math.MaxInt - 1, math.MaxInt} {
		for _, size := range []int{1, 2, chunk / 2, chunk - 1, chunk} {
			for _, align := range powers() {
				want := placed{0, size, 0}
				if align > chunk {
					want = placed{wrong: 5}
				}
				checkAnswer(t, asked{0, size, align, chunk}, want)
			}
		}
	}
}

// What is placed once does not change what is placed later.
func TestNothingIsKept(t *testing.T) {
	for range 3 {
		checkAnswer(t, asked{5, 3, 4, 64}, placed{8, 11, 0})
		checkAnswer(t, asked{-1, 3, 4, 64}, placed{wrong: 2})
		checkAnswer(t, asked{5, 65, 4, 64}, placed{wrong: 5})
		checkAnswer(t, asked{math.MaxInt, 3, 4, 64}, placed{wrong: 6})
		checkAnswer(t, asked{62, 3, 4, 64}, placed{wrong: 9})
		checkAnswer(t, asked{0, 64, 64, 64}, placed{0, 64, 0})
		checkWaste(t, 5, 4)
		checkWaste(t, -5, 4)
	}
}
