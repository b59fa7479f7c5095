package num

import (
	"math"
	"math/big"
	"testing"
)

const (
	top = math.MaxInt64
	low = math.MinInt64
)

// edges are numbers at which something begins to fit or ceases to: small ones, and all powers of two with what is beside them, of both signs.
func edges() []int {
	list := []int{low, low + 1, low + 2, top, top - 1, top - 2, 0, 7, -7, 10, 100, 3037000499, 3037000500, -3037000499, -3037000500}
	for k := range 63 {
		p := 1 << k
		list = append(list, p-1, p, p+1, -p-1, -p, -p+1)
	}
	return list
}

func checkTwo(t *testing.T, name string, a, b, got int, fits bool, want int, wantFits bool) {
	t.Helper()
	if got != want || fits != wantFits {
		t.Errorf("%s(%d, %d): %d %v, want %d %v", name, a, b, got, fits, want, wantFits)
	}
}

// ofBig is n as an int, and true, if it fits.
func ofBig(n *big.Int) (int, bool) {
	if !n.IsInt64() {
		return 0, false
	}
	return int(n.Int64()), true
}

// Promise 1.1: against sums of numbers without bounds.
func TestSumsOfEdges(t *testing.T) {
	x, y, z := new(big.Int), new(big.Int), new(big.Int)
	for _, a := range edges() {
		for _, b := range edges() {
			x.SetInt64(int64(a))
			y.SetInt64(int64(b))
			want, wantFits := ofBig(z.Add(x, y))
			got, fits := Add(a, b)
			checkTwo(t, "Add", a, b, got, fits, want, wantFits)
			want, wantFits = ofBig(z.Sub(x, y))
			got, fits = Sub(a, b)
			checkTwo(t, "Sub", a, b, got, fits, want, wantFits)
			want, wantFits = ofBig(z.Mul(x, y))
			got, fits = Mul(a, b)
			checkTwo(t, "Mul", a, b, got, fits, want, wantFits)
		}
	}
}

type sumCase struct {
	a, b, want int
	fits       bool
}

func checkCases(t *testing.T, name string, call func(a, b int) (int, bool), cases []sumCase) {
	t.Helper()
	for _, c := range cases {
		got, fits := call(c.a, c.b)
		checkTwo(t, name, c.a, c.b, got, fits, c.want, c.fits)
	}
}

// Promise 1.1: what fits just so, and what does not.
func TestAdd(t *testing.T) {
	checkCases(t, "Add", Add, []sumCase{
		{2, 3, 5, true}, {-2, 3, 1, true}, {-2, -3, -5, true}, {0, 0, 0, true},
		{top, 0, top, true}, {top - 1, 1, top, true}, {top, 1, 0, false}, {1, top, 0, false}, {top, top, 0, false},
		{low, 0, low, true}, {low + 1, -1, low, true}, {low, -1, 0, false}, {-1, low, 0, false}, {low, low, 0, false},
		{top, low, -1, true}, {low, top, -1, true}, {1 << 62, 1 << 62, 0, false}, {-1 << 62, -1 << 62, low, true},
	})
}

func TestSub(t *testing.T) {
	checkCases(t, "Sub", Sub, []sumCase{
		{2, 3, -1, true}, {-2, 3, -5, true}, {-2, -3, 1, true}, {0, 0, 0, true},
		{top, 0, top, true}, {top, -1, 0, false}, {0, -top, top, true}, {1, -top, 0, false},
		{low, 0, low, true}, {low, 1, 0, false}, {-1, top, low, true}, {-2, top, 0, false},
		{0, low, 0, false}, {-1, low, top, true}, {low, low, 0, true}, {top, top, 0, true}, {low, top, 0, false}, {top, low, 0, false},
	})
}

func TestMul(t *testing.T) {
	checkCases(t, "Mul", Mul, []sumCase{
		{6, 7, 42, true}, {6, -7, -42, true}, {-6, 7, -42, true}, {-6, -7, 42, true},
		{0, low, 0, true}, {low, 0, 0, true}, {0, top, 0, true}, {-1, 0, 0, true},
		{top, 1, top, true}, {top, -1, -top, true}, {-1, top, -top, true}, {top, 2, 0, false}, {top, -2, 0, false},
		{low, 1, low, true}, {1, low, low, true}, {low, -1, 0, false}, {-1, low, 0, false}, {low, low, 0, false}, {low, top, 0, false},
		{1 << 62, 2, 0, false}, {1 << 62, -2, low, true}, {-1 << 62, 2, low, true}, {-1 << 62, -2, 0, false},
		{7, 1317624576693539401, top, true}, {3, 3074457345618258603, 0, false}, {3, -3074457345618258603, 0, false}, {-3, 3074457345618258603, 0, false}, {-3, -3074457345618258603, 0, false},
		{3037000499, 3037000499, 9223372030926249001, true}, {3037000500, 3037000500, 0, false}, {1 << 32, 1 << 32, 0, false}, {-1 << 32, 1 << 32, 0, false},
	})
}

// Promise 1.2.
func TestCeil(t *testing.T) {
	checkCases(t, "Ceil", Ceil, []sumCase{
		{7, 2, 4, true}, {8, 2, 4, true}, {9, 2, 5, true}, {1, 1, 1, true}, {1, 100, 1, true}, {100, 100, 1, true}, {101, 100, 2, true},
		{0, 1, 0, true}, {0, 5, 0, true}, {0, top, 0, true},
		{top, 1, top, true}, {top, 2, 1 << 62, true}, {top, top, 1, true}, {top, top - 1, 2, true}, {1, top, 1, true},
		{-1, 5, 0, false}, {low, 1, 0, false}, {1, 0, 0, false}, {0, 0, 0, false}, {7, -2, 0, false}, {-7, -2, 0, false}, {7, low, 0, false},
	})
}

func TestCeilOfEdges(t *testing.T) {
	for _, a := range edges() {
		for _, b := range edges() {
			got, fits := Ceil(a, b)
			if a < 0 || b < 1 {
				checkTwo(t, "Ceil", a, b, got, fits, 0, false)
				continue
			}
			most := new(big.Int).Mul(big.NewInt(int64(got)), big.NewInt(int64(b)))
			less := new(big.Int).Sub(most, big.NewInt(int64(b)))
			want := big.NewInt(int64(a))
			if !fits || most.Cmp(want) < 0 || less.Cmp(want) >= 0 {
				t.Errorf("Ceil(%d, %d): %d %v is not the least", a, b, got, fits)
			}
		}
	}
}

// Promise 1.3.
func TestPower(t *testing.T) {
	powers := map[int]bool{}
	for k := range 63 {
		powers[1<<k] = true
	}
	for _, n := range edges() {
		if Power(n) != powers[n] {
			t.Errorf("Power(%d): %v, want %v", n, Power(n), powers[n])
		}
	}
	for n := -1000; n <= 1000; n++ {
		if Power(n) != powers[n] {
			t.Errorf("Power(%d): %v, want %v", n, Power(n), powers[n])
		}
	}
}

func TestLog(t *testing.T) {
	for k := range 63 {
		p := 1 << k
		for _, n := range []int{p, p + (p - 1)} {
			if got := Log(n); got != k {
				t.Errorf("Log(%d): %d, want %d", n, got, k)
			}
		}
	}
	for _, n := range []int{0, -1, -2, -8, -top, low} {
		if got := Log(n); got != -1 {
			t.Errorf("Log(%d): %d, want -1", n, got)
		}
	}
	if got := Log(9); got != 3 {
		t.Errorf("Log(9): %d, want 3", got)
	}
}

// Promise 1.4.
func TestAlign(t *testing.T) {
	checkCases(t, "Align", Align, []sumCase{
		{9, 8, 16, true}, {16, 8, 16, true}, {17, 8, 24, true}, {1, 8, 8, true}, {5, 1, 5, true},
		{0, 1, 0, true}, {0, 4, 0, true}, {0, 1 << 62, 0, true}, {1, 1 << 62, 1 << 62, true}, {1 << 62, 1 << 62, 1 << 62, true}, {1<<62 + 1, 1 << 62, 0, false},
		{top, 1, top, true}, {top, 2, 0, false}, {top - 1, 2, top - 1, true}, {top - 7, 8, top - 7, true}, {top - 6, 8, 0, false},
		{-1, 4, 0, false}, {-4, 4, 0, false}, {low, 1, 0, false},
		{5, 3, 0, false}, {6, 3, 0, false}, {0, 6, 0, false}, {5, 0, 0, false}, {0, 0, 0, false}, {5, -1, 0, false}, {5, -8, 0, false}, {5, low, 0, false}, {5, top, 0, false},
	})
}

func TestAlignOfEdges(t *testing.T) {
	for _, n := range edges() {
		for _, by := range edges() {
			got, fits := Align(n, by)
			if n < 0 || !Power(by) {
				checkTwo(t, "Align", n, by, got, fits, 0, false)
				continue
			}
			multiple := big.NewInt(int64(n) / int64(by))
			multiple.Mul(multiple, big.NewInt(int64(by)))
			if n%by != 0 {
				multiple.Add(multiple, big.NewInt(int64(by)))
			}
			want, wantFits := ofBig(multiple)
			checkTwo(t, "Align", n, by, got, fits, want, wantFits)
		}
	}
}

// Promise 1.5: what is added is taken away again.
func TestAddedIsTakenAway(t *testing.T) {
	for _, a := range edges() {
		for _, b := range edges() {
			if sum, fits := Add(a, b); fits {
				got, back := Sub(sum, b)
				checkTwo(t, "Sub", sum, b, got, back, a, true)
			}
			if difference, fits := Sub(a, b); fits {
				got, back := Add(difference, b)
				checkTwo(t, "Add", difference, b, got, back, a, true)
			}
		}
	}
}

// Promise 1.5: what is aligned is so already.
func TestAlignedIsSoAlready(t *testing.T) {
	for _, n := range edges() {
		for k := range 63 {
			by := 1 << k
			if once, fits := Align(n, by); fits {
				twice, again := Align(once, by)
				checkTwo(t, "Align", once, by, twice, again, once, true)
			}
		}
	}
}
