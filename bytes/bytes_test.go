package bytes

import (
	"fmt"
	"math"
	"slices"
	"strings"
	"testing"

	"copyhold/api"
)

const (
	greatest = 1 << 20 // the most bytes that may be, told here by its number: the package's own could be wrong
	rowWidth = 64      // how many bytes a row has, told likewise
)

// pair is bytes, and what they have to be.
type pair struct {
	b *Bytes
	p []byte
}

// fresh is a pair of so many bytes, all 0.
func fresh(size int) *pair {
	return &pair{New(size), make([]byte, size)}
}

// full is a pair of so many bytes, none of them 0, and no two of them side by side the same.
func full(t *testing.T, size int) *pair {
	t.Helper()
	d := fresh(size)
	d.store(t, 0, pattern(size, 1))
	return d
}

// pattern is n bytes, none of them 0, that begin otherwise for each of 255 kinds.
func pattern(n, kind int) string {
	text := make([]byte, n)
	for place := range text {
		text[place] = byte(1 + (kind-1+place)%255)
	}
	return string(text)
}

// zeros is n bytes that are 0.
func zeros(n int) string {
	return strings.Repeat("\x00", n)
}

// wantError is what Load, Store and Wipe have to tell of n bytes from at on, of so many bytes as the size, with numbers that go up to 2^64 - 1.
func wantError(size, at, n int) api.Errno {
	if at < 0 || n < 0 || uint64(at)+uint64(n) > uint64(size) {
		return api.ErrRange
	}
	return api.OK
}

func same[T comparable](t *testing.T, what string, got, want T) {
	t.Helper()
	if got != want {
		t.Errorf("%s: %v, want %v", what, got, want)
	}
}

// sameText holds two texts against each other, and tells of great ones where they differ first.
func sameText(t *testing.T, what, got, want string) {
	t.Helper()
	if got == want {
		return
	}
	if len(got) != len(want) {
		t.Errorf("%s: %d bytes, want %d", what, len(got), len(want))
		return
	}
	for place := range len(got) {
		if got[place] != want[place] {
			t.Errorf("%s: byte %d is %d, want %d", what, place, got[place], want[place])
			return
		}
	}
}

// wantRuns are the greatest spans of places whose bytes are not 0: each begins where the byte ahead is 0 or none, and ends likewise.
func wantRuns(p []byte) []api.Span {
	var runs []api.Span
	for at, one := range p {
		if one == 0 || at > 0 && p[at-1] != 0 {
			continue
		}
		end := at
		for end < len(p) && p[end] != 0 {
			end++
		}
		runs = append(runs, api.Span{At: at, Len: end - at})
	}
	return runs
}

// wantDirty is how many bytes are not 0.
func wantDirty(p []byte) int {
	dirty := len(p)
	for _, one := range p {
		if one == 0 {
			dirty--
		}
	}
	return dirty
}

func sameRuns(t *testing.T, what string, got, want []api.Span) {
	t.Helper()
	if slices.Equal(got, want) {
		return
	}
	if len(got)+len(want) > 20 {
		t.Errorf("%s: %d runs, want %d others", what, len(got), len(want))
		return
	}
	t.Errorf("%s: runs %v, want %v", what, got, want)
}

// check holds all that the bytes tell against what they have to be, and that no row is kept that is all 0, or lies behind the size.
func (d *pair) check(t *testing.T, what string) {
	t.Helper()
	same(t, what+": Size", d.b.Size(), len(d.p))
	text, wrong := d.b.Load(0, len(d.p))
	same(t, what+": Load of all", wrong, api.OK)
	sameText(t, what+": Load of all", text, string(d.p))
	dirty := wantDirty(d.p)
	same(t, what+": Clean", d.b.Clean(), dirty == 0)
	same(t, what+": Dirty", d.b.Dirty(), dirty)
	sameRuns(t, what, d.b.Runs(), wantRuns(d.p))
	for number, r := range d.b.rows {
		if r == [rowWidth]byte{} || number < 0 || number*rowWidth >= len(d.p) {
			t.Errorf("%s: row %d is kept: %v", what, number, r)
		}
	}
}

// load holds a Load against the bytes as they have to be.
func (d *pair) load(t *testing.T, at, n int) {
	t.Helper()
	text, wrong := d.b.Load(at, n)
	want, told := "", wantError(len(d.p), at, n)
	if told == api.OK {
		want = string(d.p[at : at+n])
	}
	if wrong != told {
		t.Errorf("Load(%d, %d) of %d: %d, want %d", at, n, len(d.p), wrong, told)
	}
	sameText(t, fmt.Sprintf("Load(%d, %d) of %d", at, n, len(d.p)), text, want)
}

// store does a Store to both, and holds what it tells.
func (d *pair) store(t *testing.T, at int, s string) {
	t.Helper()
	wrong, told := d.b.Store(at, s), wantError(len(d.p), at, len(s))
	if wrong != told {
		t.Errorf("Store(%d, %d bytes) of %d: %d, want %d", at, len(s), len(d.p), wrong, told)
	}
	if told == api.OK {
		copy(d.p[at:], s)
	}
}

// wipe does a Wipe to both, and holds what it tells.
func (d *pair) wipe(t *testing.T, at, n int) {
	t.Helper()
	wrong, told := d.b.Wipe(at, n), wantError(len(d.p), at, n)
	if wrong != told {
		t.Errorf("Wipe(%d, %d) of %d: %d, want %d", at, n, len(d.p), wrong, told)
	}
	if told == api.OK {
		copy(d.p[at:], make([]byte, n))
	}
}

// copy does a Copy to both, and holds what it tells; from may be d itself.
func (d *pair) copy(t *testing.T, at int, from *pair, off, n int) {
	t.Helper()
	wrong := d.b.Copy(at, from.b, off, n)
	told := max(wantError(len(from.p), off, n), wantError(len(d.p), at, n))
	if wrong != told {
		t.Errorf("Copy(%d, of %d, %d, %d) of %d: %d, want %d", at, len(from.p), off, n, len(d.p), wrong, told)
	}
	if told == api.OK {
		// As they were ahead: a copy of them is made first.
		copy(d.p[at:], slices.Clone(from.p[off:off+n]))
	}
}

// copied is a pair of the same bytes, that stands on nothing of d.
func (d *pair) copied(t *testing.T) *pair {
	t.Helper()
	c := fresh(len(d.p))
	c.store(t, 0, string(d.p))
	return c
}

// farNumbers are numbers that are wrong for each of these bytes, or do not fit an int together with others.
var farNumbers = []int{math.MinInt, math.MinInt + 1, -1 << 40, -greatest - 1, -greatest, -rowWidth, -2, -1, greatest + 1, 1 << 31, 1 << 32, 1 << 40, 1 << 62, math.MaxInt - greatest, math.MaxInt - rowWidth, math.MaxInt - 1, math.MaxInt}

// places are the places of so many bytes that lie at an edge of all or of a row, or beside one, rising; those beyond the size by one too.
func places(size int) []int {
	list := []int{0, 1, size - 1, size, size + 1}
	for edge := rowWidth; edge <= size; edge += rowWidth {
		list = append(list, edge-1, edge, edge+1)
	}
	slices.Sort(list)
	list = slices.Compact(list)
	return slices.DeleteFunc(list, func(place int) bool { return place < 0 })
}

// sizes are sizes about the width of a row and its multiples, rising.
var sizes = []int{1, 2, 3, 62, 63, 64, 65, 66, 100, 127, 128, 129, 191, 192, 193, 1000}

// Promise 10.1: New(size) is the bytes, all 0.
func TestNewIsThatManyBytes(t *testing.T) {
	for _, size := range append([]int{greatest/2 + 1, greatest - rowWidth, greatest - 1, greatest}, sizes...) {
		d := fresh(size)
		if d.b == nil {
			t.Errorf("New(%d) is nil", size)
			continue
		}
		d.check(t, fmt.Sprintf("New(%d)", size))
		d.load(t, 0, 1)
		d.load(t, size-1, 1)
		d.load(t, size, 1)
	}
}

// Promise 10.1: nil, if the size is not from 1 to 2^20.
func TestNewIsNilOfOtherSizes(t *testing.T) {
	for _, size := range append([]int{0, greatest + rowWidth, 2 * greatest, 1<<32 + 1, 1<<40 + 64}, farNumbers...) {
		if New(size) != nil {
			t.Errorf("New(%d) is not nil", size)
		}
	}
}

// Promise 10.2: what Load tells, at all small numbers, and beyond.
func TestLoadAtAllSmallNumbers(t *testing.T) {
	for _, size := range []int{1, 2, 3, 63, 64, 65, 66, 128, 130} {
		for _, d := range []*pair{fresh(size), full(t, size)} {
			for at := -2; at <= size+2; at++ {
				for n := -2; n <= size+2; n++ {
					d.load(t, at, n)
				}
			}
			d.check(t, "behind Loads")
		}
	}
}

// Promise 10.2: what Store tells and does, from each place on, of each number of bytes.
func TestStoreAtAllSmallNumbers(t *testing.T) {
	for _, size := range []int{1, 2, 3, 63, 64, 65, 130} {
		for at := -2; at <= size+2; at++ {
			for _, n := range append(places(size), size+2) {
				d := fresh(size)
				d.store(t, at, pattern(n, 7))
				d.check(t, fmt.Sprintf("Store(%d, %d bytes) of %d fresh", at, n, size))
				d.store(t, 0, pattern(size, 3))
				d.store(t, at, pattern(n, 100))
				d.check(t, fmt.Sprintf("Store(%d, %d bytes) of %d full", at, n, size))
			}
		}
	}
}

// Promise 10.2: what Wipe tells and does, from each place on, of each number of bytes.
func TestWipeAtAllSmallNumbers(t *testing.T) {
	for _, size := range []int{1, 2, 3, 63, 64, 65, 130} {
		for at := -2; at <= size+2; at++ {
			for _, n := range append(places(size), -1, -2, size+2) {
				d := full(t, size)
				d.wipe(t, at, n)
				d.check(t, fmt.Sprintf("Wipe(%d, %d) of %d full", at, n, size))
				d = fresh(size)
				d.wipe(t, at, n)
				d.check(t, fmt.Sprintf("Wipe(%d, %d) of %d fresh", at, n, size))
			}
		}
	}
}

// Promise 10.2: ErrRange, if at or n is below 0, or both are above the size together, also where they do not fit an int together; nothing changes then.
func TestWhatIsNotWithinIsErrRange(t *testing.T) {
	for _, size := range append([]int{greatest}, sizes...) {
		d := full(t, size)
		for _, far := range farNumbers {
			for _, near := range append(places(size), farNumbers...) {
				d.load(t, far, near)
				d.load(t, near, far)
				d.wipe(t, far, near)
				d.wipe(t, near, far)
			}
			for _, n := range []int{0, 1, 2, rowWidth - 1, rowWidth, rowWidth + 1, 300} {
				d.store(t, far, pattern(n, 9))
			}
		}
		for _, n := range []int{size + 1, size + rowWidth, 2 * greatest} {
			d.store(t, 0, pattern(n, 9))
			d.store(t, 1, pattern(n-1, 9))
			d.store(t, size-1, pattern(n-size+1, 9))
			d.store(t, size, pattern(n-size, 9))
		}
		d.check(t, "behind what is not within")
	}
}

// Promise 10.2: the last byte, the place behind it, and a text of no bytes, of all, and of one more.
func TestAtTheEndOfTheBytes(t *testing.T) {
	for _, size := range append([]int{greatest - 1, greatest}, sizes...) {
		b := New(size)
		same(t, "Store of the last byte", b.Store(size-1, "z"), api.OK)
		text, wrong := b.Load(size-1, 1)
		same(t, "Load of the last byte", text, "z")
		same(t, "Load of the last byte", wrong, api.OK)
		same(t, "Store of none behind it", b.Store(size, ""), api.OK)
		same(t, "Wipe of none behind it", b.Wipe(size, 0), api.OK)
		text, wrong = b.Load(size, 0)
		same(t, "Load of none behind it", text, "")
		same(t, "Load of none behind it", wrong, api.OK)
		same(t, "Store of one behind it", b.Store(size, "y"), api.ErrRange)
		same(t, "Store of two at it", b.Store(size-1, "xy"), api.ErrRange)
		same(t, "Wipe of one behind it", b.Wipe(size, 1), api.ErrRange)
		same(t, "Wipe of two at it", b.Wipe(size-1, 2), api.ErrRange)
		same(t, "Wipe of none one beyond", b.Wipe(size+1, 0), api.ErrRange)
		same(t, "Store of none one beyond", b.Store(size+1, ""), api.ErrRange)
		_, wrong = b.Load(size+1, 0)
		same(t, "Load of none one beyond", wrong, api.ErrRange)
		same(t, "Dirty", b.Dirty(), 1)
		same(t, "Store of one too many", b.Store(0, pattern(size+1, 2)), api.ErrRange)
		same(t, "Dirty", b.Dirty(), 1)
		same(t, "Store of all", b.Store(0, pattern(size, 2)), api.OK)
		same(t, "Dirty", b.Dirty(), size)
		same(t, "Wipe of the last byte", b.Wipe(size-1, 1), api.OK)
		same(t, "Dirty", b.Dirty(), size-1)
		same(t, "Wipe of all", b.Wipe(0, size), api.OK)
		same(t, "Clean", b.Clean(), true)
	}
}

// Promises 10.2 and 10.4: what lies within one row, fills one, begins or ends at its edge, goes over one edge, or over many; other bytes stay.
func TestOverEdgesOfRows(t *testing.T) {
	for _, size := range []int{64, 65, 127, 128, 129, 200, 256, 300} {
		for _, at := range places(size) {
			for _, end := range places(size) {
				n := end - at
				if n < 0 {
					continue
				}
				for _, d := range []*pair{fresh(size), full(t, size)} {
					d.load(t, at, n)
					d.store(t, at, pattern(n, 50))
					d.check(t, fmt.Sprintf("Store(%d, %d bytes) of %d", at, n, size))
					d.load(t, at, n)
					d.wipe(t, at, n)
					d.check(t, fmt.Sprintf("Wipe(%d, %d) of %d", at, n, size))
					d.load(t, at, n)
				}
			}
		}
	}
}

// Promises 10.2 and 10.3: bytes are stored as 0 over bytes that are not; rows become all 0 by Store, by Wipe and by Copy, and are stored to again.
func TestRowsThatBecomeAllZero(t *testing.T) {
	const size = 200
	nothing := fresh(size)
	empty := map[string]func(d *pair, at, n int){
		"Store": func(d *pair, at, n int) { d.store(t, at, zeros(n)) },
		"Wipe":  func(d *pair, at, n int) { d.wipe(t, at, n) },
		"Copy":  func(d *pair, at, n int) { d.copy(t, at, nothing, at, n) },
		"Stores": func(d *pair, at, n int) {
			for place := at; place < at+n; place++ {
				d.store(t, place, "\x00")
			}
		},
		"Wipes": func(d *pair, at, n int) {
			for place := at + n - 1; place >= at; place-- {
				d.wipe(t, place, 1)
			}
		},
	}
	for by, do := range empty {
		for _, at := range []int{0, 1, 63, 64, 128, 192} {
			for _, n := range []int{1, 8, 63, 64, 65, 72, 128, 136, 199, 200} {
				if at+n > size {
					continue
				}
				what := fmt.Sprintf("%s of %d from %d on", by, n, at)
				d := fresh(size)
				d.store(t, at, pattern(n, 4))
				d.check(t, what)
				do(d, at, n)
				same(t, what+": Clean", d.b.Clean(), true)
				same(t, what+": rows that are kept", len(d.b.rows), 0)
				d.check(t, what)
				d.store(t, at, pattern(n, 5))
				d.check(t, what+", and stored again")
				d.store(t, 0, pattern(size, 6))
				do(d, at, n)
				d.check(t, what+", of full ones")
				d.store(t, at, pattern(n, 7))
				d.check(t, what+", of full ones, and stored again")
			}
		}
	}
	nothing.check(t, "what was copied from")
}

// Promise 10.2: bytes that are 0 may be stored and wiped where none was stored.
func TestZerosOverWhatWasNeverStored(t *testing.T) {
	for _, size := range append([]int{greatest}, sizes...) {
		d := fresh(size)
		d.wipe(t, 0, size)
		d.wipe(t, size-1, 1)
		d.wipe(t, 0, 0)
		d.store(t, 0, zeros(size))
		d.store(t, size-1, "\x00")
		d.copy(t, 0, fresh(size), 0, size)
		d.copy(t, 0, d, 0, size)
		d.check(t, "zeros over zeros")
		same(t, "rows that are kept", len(d.b.rows), 0)
	}
}

// Promises 10.2 and 10.4: each byte from 0 to 255 is stored and loaded as it is, at each place of a row.
func TestEachByteAtEachPlace(t *testing.T) {
	const size = 3 * rowWidth
	for one := range 256 {
		d := fresh(size)
		for at := 0; at < size; at += 1 + one%3 {
			d.store(t, at, string([]byte{byte(one)}))
			d.load(t, at, 1)
		}
		d.check(t, fmt.Sprintf("byte %d", one))
	}
	all := make([]byte, 256)
	for one := range all {
		all[one] = byte(one)
	}
	for at := range rowWidth + 1 {
		d := fresh(256 + rowWidth)
		d.store(t, at, string(all))
		d.check(t, "all bytes")
		d.load(t, at+127, 2)
		d.load(t, at+128, 128)
	}
}

// Promise 10.2: texts are rows of bytes, and need not be UTF-8; runes that are more bytes may lie over an edge of a row, and be cut.
func TestTextsThatAreNoUTF8(t *testing.T) {
	texts := []string{"\xff\xfe", "\x80\x80\x80", "é", "\xe2\x82", "€", "\xf0\x9f\x98", "\xed\xa0\x80", "\xc0\x80", "a\x00b\x00", "\xef\xbf\xbd", "\U0010ffff", "\r\n\t\"\\"}
	for _, s := range texts {
		for at := rowWidth - 5; at <= rowWidth+1; at++ {
			d := fresh(2 * rowWidth)
			d.store(t, at, s)
			d.check(t, fmt.Sprintf("%q at %d", s, at))
			for n := range len(s) + 1 {
				d.load(t, at, n)
				d.load(t, at+n, len(s)-n)
			}
			text, _ := d.b.Load(at, len(s))
			same(t, "Load of it", text, s)
		}
	}
}

// Promise 10.3: Size, Clean and Dirty of fresh bytes, of full ones, and of one byte.
func TestSizeCleanAndDirty(t *testing.T) {
	for _, size := range append([]int{greatest - 1, greatest}, sizes...) {
		b := New(size)
		tells := func(what string, clean bool, dirty int) {
			t.Helper()
			what = fmt.Sprintf("%s of %d", what, size)
			same(t, what+": Size", b.Size(), size)
			same(t, what+": Clean", b.Clean(), clean)
			same(t, what+": Dirty", b.Dirty(), dirty)
		}
		tells("fresh", true, 0)
		for _, at := range []int{0, size / 2, size - 1} {
			b.Store(at, "\x01")
			tells("one byte", false, 1)
			b.Store(at, "\xff")
			tells("one byte again", false, 1)
			b.Store(at, "\x00")
			tells("none", true, 0)
			b.Store(at, "\x80")
			b.Wipe(at, 1)
			tells("wiped", true, 0)
		}
		b.Store(0, pattern(size, 1))
		tells("full", false, size)
		b.Copy(0, b, 0, size)
		tells("full, and copied", false, size)
		b.Store(size-1, "\x00")
		tells("full but one", size == 1, size-1)
		b.Copy(0, New(size), 0, size)
		tells("all 0, by Copy", true, 0)
	}
}

// Promise 10.5: Runs, of none, of one byte, of the first and the last one, side by side over an edge of a row, of all, of every second one.
func TestRuns(t *testing.T) {
	tells := func(what string, b *Bytes, want ...api.Span) {
		t.Helper()
		sameRuns(t, what, b.Runs(), want)
	}
	b := New(200)
	tells("none", b)
	b.Store(70, "a")
	tells("one byte", b, api.Span{At: 70, Len: 1})
	b.Store(0, "a")
	tells("the first one too", b, api.Span{At: 0, Len: 1}, api.Span{At: 70, Len: 1})
	b.Store(199, "a")
	tells("the last one too", b, api.Span{At: 0, Len: 1}, api.Span{At: 70, Len: 1}, api.Span{At: 199, Len: 1})
	b.Store(63, "a")
	tells("ahead of an edge", b, api.Span{At: 0, Len: 1}, api.Span{At: 63, Len: 1}, api.Span{At: 70, Len: 1}, api.Span{At: 199, Len: 1})
	b.Store(64, "b")
	tells("over an edge", b, api.Span{At: 0, Len: 1}, api.Span{At: 63, Len: 2}, api.Span{At: 70, Len: 1}, api.Span{At: 199, Len: 1})
	b.Wipe(63, 1)
	tells("behind an edge", b, api.Span{At: 0, Len: 1}, api.Span{At: 64, Len: 1}, api.Span{At: 70, Len: 1}, api.Span{At: 199, Len: 1})
	b.Store(65, "ccccc")
	tells("met", b, api.Span{At: 0, Len: 1}, api.Span{At: 64, Len: 7}, api.Span{At: 199, Len: 1})
	b.Wipe(67, 1)
	tells("parted", b, api.Span{At: 0, Len: 1}, api.Span{At: 64, Len: 3}, api.Span{At: 68, Len: 3}, api.Span{At: 199, Len: 1})
	b.Store(0, pattern(200, 1))
	tells("all", b, api.Span{At: 0, Len: 200})
	b.Wipe(64, 64)
	tells("a row less", b, api.Span{At: 0, Len: 64}, api.Span{At: 128, Len: 72})
	b.Wipe(0, 200)
	tells("none again", b)
}

// Promise 10.5: Runs of great bytes: of every second one, of all, of both ends.
func TestRunsOfGreatBytes(t *testing.T) {
	for _, size := range []int{greatest - 1, greatest} {
		for _, first := range []int{0, 1} {
			d := fresh(size)
			text := make([]byte, size)
			for at := first; at < size; at += 2 {
				text[at] = byte(1 + at%255)
			}
			d.store(t, 0, string(text))
			d.check(t, "every second one")
			same(t, "how many", len(d.b.Runs()), (size+1-first)/2)
		}
		d := fresh(size)
		d.store(t, 0, "a")
		d.store(t, size-1, "z")
		d.check(t, "both ends")
		d.store(t, 0, pattern(size, 1))
		d.check(t, "all")
		same(t, "how many", len(d.b.Runs()), 1)
	}
}

// Promise 10.5: Runs and Dirty of each row of a few bytes that are 0 or not, about an edge of a row.
func TestRunsOfEachRowOfFewBytes(t *testing.T) {
	const few = 10
	for bits := range 1 << few {
		text := make([]byte, few)
		for place := range text {
			text[place] = byte(bits >> place & 1 * (200 - place))
		}
		for _, at := range []int{0, rowWidth - few/2, rowWidth, 2*rowWidth - few} {
			d := fresh(2 * rowWidth)
			d.store(t, at, string(text))
			d.check(t, fmt.Sprintf("%v at %d", text, at))
		}
	}
}

// Promise 10.5: Copy from other bytes, of another size too, of all places and numbers about edges.
func TestCopyFromOthers(t *testing.T) {
	for _, size := range []int{1, 64, 65, 130} {
		for _, other := range []int{1, 63, 64, 130, 193} {
			from := full(t, other)
			from.wipe(t, other/2, 1)
			for _, at := range places(size) {
				for _, off := range places(other) {
					for _, n := range places(min(size, other)) {
						d := fresh(size)
						d.store(t, 0, pattern(size, 77))
						d.copy(t, at, from, off, n)
						d.check(t, fmt.Sprintf("Copy(%d, of %d, %d, %d) of %d", at, other, off, n, size))
					}
				}
			}
			from.check(t, "what was copied from")
		}
	}
}

// Promise 10.5: Copy from the same bytes, where the places are the same, overlap ahead and behind, and are apart.
func TestCopyFromTheSame(t *testing.T) {
	for _, size := range []int{1, 2, 64, 65, 130, 193} {
		for _, at := range places(size) {
			for _, off := range places(size) {
				for _, n := range places(size) {
					d := full(t, size)
					d.wipe(t, size/3, size/5)
					d.copy(t, at, d, off, n)
					d.check(t, fmt.Sprintf("Copy(%d, of itself, %d, %d) of %d", at, off, n, size))
				}
			}
		}
	}
	b := New(10)
	b.Store(0, "abcdefghij")
	copies := []struct {
		at, off, n int
		want       string
	}{
		{0, 0, 10, "abcdefghij"}, {2, 2, 3, "abcdefghij"}, {0, 3, 5, "defghfghij"}, {3, 0, 5, "defdefghij"},
		{1, 0, 9, "ddefdefghi"}, {0, 5, 5, "efghiefghi"}, {4, 4, 0, "efghiefghi"}, {10, 10, 0, "efghiefghi"},
		{9, 0, 1, "efghiefghe"},
	}
	for _, c := range copies {
		same(t, "Copy from itself", b.Copy(c.at, b, c.off, c.n), api.OK)
		text, _ := b.Load(0, 10)
		same(t, fmt.Sprintf("Copy(%d, of itself, %d, %d)", c.at, c.off, c.n), text, c.want)
	}
}

// Promise 10.5: Copy of nothing, of all, and of bytes that were never stored to over ones that were.
func TestCopyOfNothingAndOfAll(t *testing.T) {
	for _, size := range append([]int{greatest}, sizes...) {
		from := fresh(size)
		from.store(t, 0, pattern(size, 30))
		d := fresh(size)
		d.copy(t, 0, from, 0, 0)
		d.copy(t, size, from, 0, 0)
		d.copy(t, 0, from, size, 0)
		d.copy(t, size, from, size, 0)
		d.check(t, "nothing was copied")
		same(t, "Clean", d.b.Clean(), true)
		d.copy(t, 0, from, 0, size)
		d.check(t, "all was copied")
		same(t, "Dirty", d.b.Dirty(), size)
		d.copy(t, 0, fresh(size), 0, size)
		d.check(t, "what was never stored was copied")
		same(t, "Clean", d.b.Clean(), true)
		from.check(t, "what was copied from")
	}
}

// Promise 10.5: Copy, ErrRange with off, at or n below 0 or too great on either side; nothing changes then.
func TestCopyOfWhatIsNotWithin(t *testing.T) {
	for _, size := range []int{1, 64, 100} {
		for _, other := range []int{1, 65, 100, 200} {
			d, from := full(t, size), full(t, other)
			for _, far := range farNumbers {
				for _, near := range append([]int{0, 1, size - 1, size, size + 1, other, other + 1}, farNumbers...) {
					for _, n := range append([]int{0, 1, size, other}, farNumbers...) {
						d.copy(t, far, from, near, n)
						d.copy(t, near, from, far, n)
						d.copy(t, far, d, near, n)
						d.copy(t, near, d, far, n)
					}
				}
				d.copy(t, 0, from, 0, far)
				d.copy(t, 0, d, 0, far)
				d.copy(t, far, from, 0, far)
				d.copy(t, 0, from, far, far)
			}
			d.check(t, "what was copied to")
			from.check(t, "what was copied from")
		}
	}
	b, less := New(100), New(50)
	b.Store(0, pattern(100, 1))
	less.Store(0, pattern(50, 1))
	same(t, "all of the less", b.Copy(50, less, 0, 50), api.OK)
	same(t, "one more than the less has", b.Copy(0, less, 0, 51), api.ErrRange)
	same(t, "one more than the less has, from 1 on", b.Copy(0, less, 1, 50), api.ErrRange)
	same(t, "one more than there is room", b.Copy(51, less, 0, 50), api.ErrRange)
	same(t, "to the less", less.Copy(0, b, 50, 50), api.OK)
	same(t, "to the less one more", less.Copy(0, b, 49, 51), api.ErrRange)
	same(t, "to the less beyond", less.Copy(1, b, 50, 50), api.ErrRange)
	same(t, "off at the end", b.Copy(0, less, 50, 0), api.OK)
	same(t, "off beyond", b.Copy(0, less, 51, 0), api.ErrRange)
	same(t, "at beyond", b.Copy(101, less, 0, 0), api.ErrRange)
}

// Promises 10.2, 10.3 and 10.5: what nil bytes and zero ones tell, with what would be ErrRange too.
func TestBytesThatNewDidNotGive(t *testing.T) {
	var none *Bytes
	right := New(100)
	right.Store(0, pattern(100, 1))
	for _, b := range []*Bytes{none, {}, New(0), New(greatest + 1)} {
		for _, at := range append([]int{0, 1, 100}, farNumbers...) {
			for _, n := range append([]int{0, 1, 100}, farNumbers...) {
				text, wrong := b.Load(at, n)
				same(t, "Load", text, "")
				same(t, "Load", wrong, api.ErrNil)
				same(t, "Wipe", b.Wipe(at, n), api.ErrNil)
				for _, off := range []int{0, -1, 101, math.MaxInt, math.MinInt} {
					same(t, "Copy to it", b.Copy(at, right, off, n), api.ErrNil)
					same(t, "Copy from it", right.Copy(at, b, off, n), api.ErrNil)
					same(t, "Copy to and from it", b.Copy(at, b, off, n), api.ErrNil)
					same(t, "Copy from nil to it", b.Copy(at, nil, off, n), api.ErrNil)
					same(t, "Copy from zero ones to it", b.Copy(at, &Bytes{}, off, n), api.ErrNil)
				}
			}
			for _, s := range []string{"", "a", zeros(1), pattern(200, 1)} {
				same(t, "Store", b.Store(at, s), api.ErrNil)
			}
		}
		same(t, "Size", b.Size(), 0)
		same(t, "Clean", b.Clean(), true)
		same(t, "Dirty", b.Dirty(), 0)
		same(t, "Runs", len(b.Runs()), 0)
	}
	text, wrong := right.Load(0, 100)
	same(t, "right ones", text, pattern(100, 1))
	same(t, "right ones", wrong, api.OK)
}

// Promise 10.4: what is stored in two parts, in either order, is as what is stored at once; so is what is wiped, and what is copied.
func TestTwoPartsAreAsOne(t *testing.T) {
	const size = 200
	text := pattern(150, 9)
	from := full(t, size)
	for _, at := range []int{0, 1, 10, 49, 50} {
		for cut := range len(text) + 1 {
			parts := [][2]int{{0, cut}, {cut, len(text)}}
			if cut%2 == 1 {
				slices.Reverse(parts)
			}
			stored, wiped, copied := full(t, size), full(t, size), fresh(size)
			for _, p := range parts {
				begin, n := p[0], p[1]-p[0]
				stored.b.Store(at+begin, text[p[0]:p[1]])
				wiped.b.Wipe(at+begin, n)
				copied.b.Copy(at+begin, from.b, begin, n)
			}
			copy(stored.p[at:], text)
			copy(wiped.p[at:], zeros(len(text)))
			copy(copied.p[at:], from.p[:len(text)])
			what := fmt.Sprintf("at %d, cut at %d", at, cut)
			stored.check(t, "stored "+what)
			wiped.check(t, "wiped "+what)
			copied.check(t, "copied "+what)
		}
	}
}

// Promise 10.4: a byte that is stored or wiped changes no other one, wherever it lies.
func TestOtherBytesStay(t *testing.T) {
	for _, size := range []int{64, 100, 129} {
		fresher, fuller := fresh(size), full(t, size)
		for at := range size {
			fresher.store(t, at, "q")
			fresher.check(t, "one byte stored")
			fresher.wipe(t, at, 1)
			fresher.check(t, "one byte wiped")
			fuller.wipe(t, at, 1)
			fuller.check(t, "one of many wiped")
			fuller.store(t, at, "q")
			fuller.check(t, "one of many stored")
		}
	}
}

// Texts that were loaded and spans that were told stay as they were, and what is done to these spans does nothing to the bytes.
func TestWhatIsHandedOutIsOnesOwn(t *testing.T) {
	d := full(t, 200)
	d.wipe(t, 50, 20)
	want, spans := strings.Clone(string(d.p)), wantRuns(d.p)
	text, _ := d.b.Load(0, 200)
	part, _ := d.b.Load(60, 30)
	runs := d.b.Runs()
	d.store(t, 0, pattern(200, 99))
	d.wipe(t, 10, 100)
	d.copy(t, 0, d, 100, 100)
	sameText(t, "the text that was loaded", text, want)
	sameText(t, "the part that was loaded", part, want[60:90])
	sameRuns(t, "the spans that were told", runs, spans)
	again := d.b.Runs()
	for _, list := range [][]api.Span{runs, again} {
		list = list[:cap(list)]
		for place := range list {
			list[place] = api.Span{At: -5, Len: 7}
		}
	}
	d.check(t, "behind overwritten spans")
	twice, other := d.b.Runs(), d.b.Runs()
	twice[0] = api.Span{At: 3, Len: 3}
	sameRuns(t, "another answer", other, wantRuns(d.p))
}

// Bytes are each by themselves: what is done to these does nothing to others, also where one was copied from the other.
func TestBytesAreByThemselves(t *testing.T) {
	a, b := full(t, 150), fresh(150)
	b.copy(t, 0, a, 0, 150)
	a.store(t, 40, pattern(60, 70))
	a.check(t, "what was copied from")
	b.check(t, "what was copied to")
	b.wipe(t, 0, 100)
	a.check(t, "what was copied from")
	b.check(t, "what was copied to")
	c := a.copied(t)
	c.copy(t, 10, b, 90, 60)
	a.check(t, "others")
	b.check(t, "others")
	c.check(t, "what was copied to")
}

// All calls in turn, in all rows of a few, hold against what the bytes have to be.
func TestAllShortRowsOfCalls(t *testing.T) {
	const size, long = 66, 3
	calls := []func(d, other *pair){
		func(d, other *pair) { d.store(t, 62, "abcd") },
		func(d, other *pair) { d.store(t, 64, "\x00\x00") },
		func(d, other *pair) { d.store(t, 0, pattern(size, 11)) },
		func(d, other *pair) { d.store(t, 65, "ab") },
		func(d, other *pair) { d.wipe(t, 0, 64) },
		func(d, other *pair) { d.wipe(t, 63, 2) },
		func(d, other *pair) { d.wipe(t, 64, 3) },
		func(d, other *pair) { d.copy(t, 60, d, 62, 4) },
		func(d, other *pair) { d.copy(t, 62, d, 60, 4) },
		func(d, other *pair) { d.copy(t, 0, other, 0, size) },
		func(d, other *pair) { other.copy(t, 1, d, 0, size-1) },
		func(d, other *pair) { other.copy(t, 1, d, 1, size) },
	}
	rows := 1
	for range long {
		rows *= len(calls)
	}
	for number := range rows {
		d, other := fresh(size), fresh(size)
		for left := number + rows; left > 1; left /= len(calls) {
			calls[left%len(calls)](d, other)
		}
		d.check(t, fmt.Sprintf("row %d", number))
		other.check(t, fmt.Sprintf("the others of row %d", number))
		if t.Failed() {
			return
		}
	}
}

// luck is numbers that come by a rule, each unlike the one ahead.
type luck uint64

// below is the next number, from 0 to one less than n.
func (l *luck) below(n int) int {
	*l = *l*6364136223846793005 + 1442695040888963407
	return int(uint64(*l) >> 33 % uint64(n))
}

// text is at most n bytes, of which many are 0, or all, or none.
func (l *luck) text(n int) string {
	switch n = l.below(n + 1); l.below(4) {
	case 0:
		return zeros(n)
	case 1:
		return pattern(n, 1+l.below(255))
	}
	text := make([]byte, n)
	for place := range text {
		if l.below(3) == 0 {
			text[place] = byte(l.below(256))
		}
	}
	return string(text)
}

// Long rows of calls on bytes of several sizes, some of them wrong, hold against what these have to be.
func TestLongRowsOfCalls(t *testing.T) {
	for round, size := range []int{1, 5, 63, 64, 65, 128, 200, 640, 1023} {
		l := luck(round)
		pairs := []*pair{fresh(size), fresh(1 + size/2), fresh(size + 100)}
		for call := range 1500 {
			d := pairs[l.below(len(pairs))]
			at, n := l.below(len(d.p)+2)-1, l.below(len(d.p)+2)-1
			if l.below(3) > 0 {
				n = min(n, len(d.p)-at) // else too few are within
			}
			switch l.below(6) {
			case 0:
				d.load(t, at, n)
			case 1:
				d.wipe(t, at, n)
			case 2, 3:
				d.store(t, at, l.text(max(n, 0)))
			case 4:
				d.copy(t, at, pairs[l.below(len(pairs))], l.below(len(d.p)+1), n)
			case 5:
				d.copy(t, at, d, max(l.below(len(d.p)+1)-max(n, 0), 0), n)
			}
			d.check(t, fmt.Sprintf("size %d, call %d", size, call))
			if t.Failed() {
				return
			}
		}
		for _, d := range pairs {
			d.check(t, "at the end")
		}
	}
}

// The greatest bytes are filled, copied within themselves, and wiped piece by piece.
func TestTheGreatestBytes(t *testing.T) {
	d := fresh(greatest)
	d.store(t, 0, pattern(greatest, 1))
	d.check(t, "full")
	d.copy(t, 100, d, 0, greatest-100)
	d.copy(t, 0, d, 1000, greatest-1000)
	d.check(t, "copied within themselves")
	for at := 0; at < greatest; at += 1000 {
		d.wipe(t, at, min(1000, greatest-at))
		if at%100000 == 0 {
			d.check(t, "wiped up to there")
		}
	}
	d.check(t, "wiped")
	same(t, "rows that are kept", len(d.b.rows), 0)
	d.store(t, greatest/2-1, "\xff\x01")
	d.check(t, "stored again")
}

// The chapter's example.
func TestExample(t *testing.T) {
	b := New(128)
	same(t, "Store(62, abcd)", b.Store(62, "abcd"), api.OK)
	text, wrong := b.Load(61, 6)
	same(t, "Load(61, 6)", text, "\x00abcd\x00")
	same(t, "Load(61, 6)", wrong, api.OK)
}
