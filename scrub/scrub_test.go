package scrub

import (
	"fmt"
	"math"
	"math/big"
	"strings"
	"sync"
	"testing"

	"copyhold/api"
	"copyhold/bytes"
)

const (
	top      = math.MaxInt64
	low      = math.MinInt64
	greatest = 1048576 // the most bytes that a chunk has, told here by their number: the package's own could be wrong
)

func same[T comparable](t *testing.T, what string, got, want T) {
	t.Helper()
	if got != want {
		t.Errorf("%s: %v, want %v", what, got, want)
	}
}

// sameText holds texts that may be long against each other, and tells where they part.
func sameText(t *testing.T, what, got, want string) {
	t.Helper()
	if got == want {
		return
	}
	at := 0
	for at < min(len(got), len(want)) && got[at] == want[at] {
		at++
	}
	t.Errorf("%s: %d bytes, want %d; they part at %d: %.8q, want %.8q", what, len(got), len(want), at, got[at:], want[at:])
}

// pattern is n bytes, none of them 0, that begin otherwise for each of 255 kinds.
func pattern(n, kind int) string {
	text := make([]byte, n)
	for place := range text {
		text[place] = byte(1 + (kind-1+place)%255)
	}
	return string(text)
}

// chunk is bytes, and what they have to be.
type chunk struct {
	bytes *bytes.Bytes
	want  []byte
}

// clean is a chunk of so many bytes, all 0.
func clean(t *testing.T, size int) *chunk {
	t.Helper()
	b := bytes.New(size)
	if b == nil {
		t.Fatalf("no %d bytes", size)
	}
	return &chunk{b, make([]byte, size)}
}

// full is a chunk of so many bytes, none of them 0.
func full(t *testing.T, size int) *chunk {
	t.Helper()
	c := clean(t, size)
	c.store(t, 0, pattern(size, 1))
	return c
}

// store stores the text to both.
func (c *chunk) store(t *testing.T, at int, text string) {
	t.Helper()
	if e := c.bytes.Store(at, text); e != api.OK {
		t.Fatalf("Store(%d, %d bytes) is %d", at, len(text), e)
	}
	copy(c.want[at:], text)
}

// check holds the bytes against what they have to be.
func (c *chunk) check(t *testing.T, what string) {
	t.Helper()
	got, e := c.bytes.Load(0, len(c.want))
	same(t, what+": Load", e, api.OK)
	sameText(t, what, got, string(c.want))
	dirty := len(c.want) - strings.Count(string(c.want), "\x00")
	same(t, what+": Dirty", c.bytes.Dirty(), dirty)
	same(t, what+": Clean", c.bytes.Clean(), dirty == 0)
}

// pair is a wiping, the chunk that it wipes, and where its place has to be.
type pair struct {
	wiping *Wiping
	*chunk
	place int
}

// begun is a new wiping of the chunk.
func begun(t *testing.T, c *chunk) *pair {
	t.Helper()
	w := Begin(c.bytes)
	if w == nil {
		t.Fatalf("Begin of %d bytes is nil", len(c.want))
	}
	return &pair{w, c, 0}
}

// at is a wiping of so many bytes, none of them 0 at first, whose place is that one.
func at(t *testing.T, size, place int) *pair {
	t.Helper()
	p := begun(t, full(t, size))
	if place > 0 {
		p.step(t, place)
	}
	return p
}

// wanted is what Step of n has to tell, and does to the model what it has to do.
func (p *pair) wanted(n int) (int, api.Errno) {
	if n < 1 {
		return 0, 2
	}
	wiped := 0
	for wiped < n && p.place < len(p.want) {
		p.want[p.place] = 0
		p.place++
		wiped++
	}
	return wiped, 0
}

// step does it to both, and holds what is told.
func (p *pair) step(t *testing.T, n int) {
	t.Helper()
	from := p.place
	wiped, e := p.wanted(n)
	got, wrong := p.wiping.Step(n)
	if got != wiped || wrong != e {
		t.Errorf("Step(%d) of %d bytes, from %d on: %d and %d, want %d and %d", n, len(p.want), from, got, wrong, wiped, e)
	}
}

// checkPlace holds what the wiping tells of its place, however often it is asked.
func (p *pair) checkPlace(t *testing.T, what string) {
	t.Helper()
	for range 2 {
		same(t, what+": Place", p.wiping.Place(), p.place)
		same(t, what+": Left", p.wiping.Left(), len(p.want)-p.place)
		same(t, what+": Done", p.wiping.Done(), p.place == len(p.want))
	}
}

// check holds all that there is to tell.
func (p *pair) check(t *testing.T, what string) {
	t.Helper()
	p.checkPlace(t, what)
	p.chunk.check(t, what)
}

// sizes are how many bytes a chunk has: few, about the rows of 64, and many.
func sizes() []int {
	return []int{1, 2, 3, 7, 62, 63, 64, 65, 66, 127, 128, 129, 130, 191, 192, 193, 256, 1000, 4096, 65535, 65536, 65537}
}

// wrongSteps are how many bytes may not be wiped.
func wrongSteps() []int {
	return []int{low, low + 1, low + 64, -1 << 62, -1 << 32, -1<<32 + 1, -greatest - 1, -greatest, -65, -64, -63, -2, -1, 0}
}

// places are places of a wiping of so many bytes: at the beginning, amid, about the borders of rows, and at the end.
func places(size int) []int {
	var l []int
	for _, place := range []int{0, 1, 2, size / 3, size / 2, 62, 63, 64, 65, 127, 128, 129, size - 65, size - 64, size - 63, size - 2, size - 1, size} {
		if place >= 0 && place <= size {
			l = append(l, place)
		}
	}
	return l
}

// steps are how many bytes may be wiped, of which so many are left.
func steps(left int) []int {
	var l []int
	for _, n := range []int{1, 2, 3, 62, 63, 64, 65, 66, 127, 128, 129, left / 2, left - 2, left - 1, left, left + 1, left + 2, left + 64, 2*left + 1, greatest, 1 << 32, 1<<32 + 1, 1 << 62, top - left, top - 1, top} {
		if n > 0 {
			l = append(l, n)
		}
	}
	return l
}

// notGiven are wipings that Begin did not give.
func notGiven() map[string]*Wiping {
	return map[string]*Wiping{
		"a nil wiping":                   nil,
		"a zero wiping":                  {},
		"a new zero wiping":              new(Wiping),
		"no wiping of nil bytes":         Begin(nil),
		"no wiping of zero bytes":        Begin(&bytes.Bytes{}),
		"no wiping of bytes of no size":  Begin(bytes.New(0)),
		"no wiping of too many bytes":    Begin(bytes.New(greatest + 1)),
		"no wiping of fewer bytes yet":   Begin(bytes.New(-1)),
		"no wiping of the fewest bytes":  Begin(bytes.New(low)),
		"no wiping of the greatest size": Begin(bytes.New(top)),
	}
}

// Promise 18.1: a wiping at 0 of any bytes that are given, whatever they are, which stay as they are.
func TestBegin(t *testing.T) {
	for size := 1; size <= 200; size++ {
		begun(t, clean(t, size)).check(t, fmt.Sprintf("begun, %d bytes that are 0", size))
		begun(t, full(t, size)).check(t, fmt.Sprintf("begun, %d bytes that are not 0", size))
	}
	for _, size := range append(sizes(), greatest-1, greatest) {
		begun(t, full(t, size)).check(t, fmt.Sprintf("begun, %d bytes that are not 0", size))
	}
}

// Promise 18.1: nil of bytes that were not given, nil and zero ones.
func TestBeginOfWhatWasNotGiven(t *testing.T) {
	for _, b := range []*bytes.Bytes{nil, {}, new(bytes.Bytes), bytes.New(0), bytes.New(-1), bytes.New(greatest + 1), bytes.New(low), bytes.New(top)} {
		if w := Begin(b); w != nil {
			t.Error("Begin of bytes that were not given is not nil")
		}
		same(t, "the size of bytes that were not given, behind Begin", b.Size(), 0)
	}
}

// Promises 18.2 and 18.3: the chapter's example.
func TestExample(t *testing.T) {
	b := bytes.New(130)
	same(t, "Store", b.Store(0, pattern(130, 9)), api.OK)
	w := Begin(b)
	for turn, want := range []int{64, 64, 2} {
		got, e := w.Step(64)
		what := fmt.Sprintf("Step %d of 64", turn+1)
		same(t, what, got, want)
		same(t, what+": what is wrong", e, api.OK)
		same(t, what+": is it done", w.Done(), turn == 2)
	}
	same(t, "Clean", b.Clean(), true)
	same(t, "Steps(130, 64)", Steps(130, 64), 3)
}

// Promises 18.2 and 18.3: one step of each n, from each place: how many were wiped, which bytes are 0, and what is told behind it.
func TestStep(t *testing.T) {
	for size := 1; size <= 200; size += 1 + size/20 {
		for _, place := range places(size) {
			for _, n := range steps(size - place) {
				p := at(t, size, place)
				p.step(t, n)
				p.check(t, fmt.Sprintf("%d bytes, Step(%d) from %d on", size, n, place))
			}
		}
	}
}

// Promise 18.2: the same of great chunks, and the greatest.
func TestStepOfManyBytes(t *testing.T) {
	for _, size := range []int{4096, 65537} {
		for _, place := range places(size) {
			for _, n := range steps(size - place) {
				p := at(t, size, place)
				p.step(t, n)
				p.check(t, fmt.Sprintf("%d bytes, Step(%d) from %d on", size, n, place))
			}
		}
	}
	for _, n := range []int{1, 64, 65, greatest - 1, greatest, greatest + 1, 1 << 62, top} {
		p := at(t, greatest, 0)
		p.step(t, n)
		p.check(t, fmt.Sprintf("the most bytes, Step(%d)", n))
		p.step(t, n)
		p.check(t, fmt.Sprintf("the most bytes, Step(%d) twice", n))
	}
}

// Promise 18.2: as many as there are left, one more, one less, and the greatest int, at the beginning, amid, when one byte is left, and when none is, told here by their numbers.
func TestStepAtTheEdges(t *testing.T) {
	for _, size := range []int{1, 2, 63, 64, 65, 128, 130, 1000, greatest} {
		for _, left := range []int{size, size - 1, size / 2, 2, 1, 0} {
			if left > size {
				continue
			}
			for n, want := range map[int]int{left: left, left + 1: left, left - 1: left - 1, 1: 1, top: left, top - 1: left} {
				if n < 1 {
					continue
				}
				p := at(t, size, size-left)
				got, e := p.wiping.Step(n)
				what := fmt.Sprintf("Step(%d) of %d bytes, %d left", n, size, left)
				same(t, what, got, min(want, left))
				same(t, what+": what is wrong", e, api.OK)
				same(t, what+": Left", p.wiping.Left(), left-min(want, left))
			}
		}
	}
}

// Promise 18.2: ErrArg of less than one byte: nothing is moved, and nothing wiped, at any place.
func TestStepOfLessThanOne(t *testing.T) {
	for _, size := range []int{1, 63, 64, 65, 130, 4096} {
		for _, place := range places(size) {
			p := at(t, size, place)
			for _, n := range wrongSteps() {
				got, e := p.wiping.Step(n)
				what := fmt.Sprintf("Step(%d) of %d bytes, from %d on", n, size, place)
				same(t, what, got, 0)
				same(t, what+": what is wrong", e, api.ErrArg)
				p.check(t, what)
			}
			p.step(t, 1)
			p.check(t, fmt.Sprintf("%d bytes, Step(1) from %d on behind what was refused", size, place))
		}
	}
}

// Promise 18.2: steps that begin and end at any places of three rows of 64 bytes, within one, at its border, and over several: the bytes between are 0, and no others.
func TestStepsWithinRows(t *testing.T) {
	const size = 3*64 + 7
	for from := range size + 1 {
		for to := from + 1; to <= size; to += 1 + from%3 {
			p := at(t, size, from)
			got, e := p.wiping.Step(to - from)
			what := fmt.Sprintf("wiped from %d on, ahead of %d", from, to)
			same(t, what, got, to-from)
			same(t, what+": what is wrong", e, api.OK)
			text, _ := p.bytes.Load(0, size)
			sameText(t, what, text, strings.Repeat("\x00", to)+pattern(size, 1)[to:])
		}
	}
}

// Promise 18.2: bytes that are 0 already are counted as wiped, be they all, some, whole rows of them, or every other one.
func TestBytesThatAreZeroAreCounted(t *testing.T) {
	states := map[string]func() *chunk{
		"none stored": func() *chunk { return clean(t, 300) },
		"one stored":  func() *chunk { c := clean(t, 300); c.store(t, 150, "a"); return c },
		"a row stored amid": func() *chunk {
			c := clean(t, 300)
			c.store(t, 128, pattern(64, 5))
			return c
		},
		"the last stored": func() *chunk { c := clean(t, 300); c.store(t, 299, "a"); return c },
		"every other one": func() *chunk { c := clean(t, 300); c.store(t, 0, strings.Repeat("a\x00", 150)); return c },
	}
	for what, state := range states {
		for _, n := range []int{1, 2, 3, 63, 64, 65, 100, 128, 299, 300, 301, top} {
			p := begun(t, state())
			wiped := 0
			for !p.wiping.Done() && !t.Failed() {
				p.step(t, n)
				p.check(t, fmt.Sprintf("%s, behind Step(%d)", what, n))
				wiped += min(n, 300-wiped)
				same(t, what+": Place", p.wiping.Place(), wiped)
			}
		}
	}
}

// Promise 18.2: of a chunk that is done each step from 1 on is 0 and OK, and changes nothing, even if something was stored meanwhile.
func TestStepWhenDone(t *testing.T) {
	for _, size := range []int{1, 63, 64, 65, 130, 4096, greatest} {
		p := at(t, size, size)
		p.check(t, "done")
		p.store(t, 0, "a")
		p.store(t, size-1, "b")
		for _, n := range steps(0) {
			got, e := p.wiping.Step(n)
			what := fmt.Sprintf("Step(%d) of %d bytes, done", n, size)
			same(t, what, got, 0)
			same(t, what+": what is wrong", e, api.OK)
			p.checkPlace(t, what)
		}
		p.check(t, "done, behind all steps")
	}
}

// Promise 18.2: what was stored behind the place meanwhile is wiped when the place comes there, and what was stored ahead of it stays.
func TestStoredMeanwhile(t *testing.T) {
	for _, size := range []int{2, 63, 64, 65, 130, 200} {
		for place := 1; place < size; place++ {
			for _, n := range []int{1, 7, 64, size} {
				p := begun(t, clean(t, size))
				p.step(t, place)
				p.store(t, 0, "x")
				p.store(t, place-1, "y")
				p.store(t, place, "z")
				p.store(t, size-1, "w")
				what := fmt.Sprintf("%d bytes, stored to at %d", size, place)
				p.check(t, what)
				for !p.wiping.Done() && !t.Failed() {
					p.step(t, n)
					p.check(t, what+", then wiped")
				}
				one, _ := p.bytes.Load(place-1, 1)
				same(t, what+": what stands ahead of the place", one, "y")
				rest, _ := p.bytes.Load(place, size-place)
				sameText(t, what+": what stands behind the place", rest, strings.Repeat("\x00", size-place))
			}
		}
	}
}

// Promise 18.3: of a row of steps, Place grows and Left falls by what each told, both together are the size, and Done is true just where Left is 0.
func TestPlaceAndLeft(t *testing.T) {
	for _, size := range sizes() {
		for _, n := range []int{1, 5, 63, 64, 65, 1000, size - 1, size, size + 1, top} {
			if n < 1 || size/n > 300 {
				continue
			}
			w := Begin(full(t, size).bytes)
			for turn := range size/n + 3 {
				place, left := w.Place(), w.Left()
				wiped, e := w.Step(n)
				what := fmt.Sprintf("%d bytes, Step(%d) number %d", size, n, turn)
				same(t, what+": what is wrong", e, api.OK)
				same(t, what+": Place", w.Place(), place+wiped)
				same(t, what+": Left", w.Left(), left-wiped)
				same(t, what+": Place and Left", w.Place()+w.Left(), size)
				same(t, what+": Done", w.Done(), w.Left() == 0)
			}
			same(t, "Done at last", w.Done(), true)
		}
	}
}

// checkNone holds what a wiping that Begin did not give has to tell.
func checkNone(t *testing.T, what string, w *Wiping) {
	t.Helper()
	same(t, what+": Place", w.Place(), 0)
	same(t, what+": Left", w.Left(), 0)
	same(t, what+": Done", w.Done(), false)
}

// Promises 18.2 and 18.3: wipings that Begin did not give tell ErrNil, 0, 0 and false, whichever call is the first one, and stay as they were; of a nil one and a zero one ErrNil is told ahead of ErrArg.
func TestNilAndZeroWipings(t *testing.T) {
	calls := map[string]func(t *testing.T, w *Wiping){
		"Place": func(t *testing.T, w *Wiping) { same(t, "Place", w.Place(), 0) },
		"Left":  func(t *testing.T, w *Wiping) { same(t, "Left", w.Left(), 0) },
		"Done":  func(t *testing.T, w *Wiping) { same(t, "Done", w.Done(), false) },
	}
	for _, n := range append(wrongSteps(), steps(0)...) {
		calls[fmt.Sprintf("Step(%d)", n)] = func(t *testing.T, w *Wiping) {
			wiped, e := w.Step(n)
			same(t, fmt.Sprintf("Step(%d)", n), wiped, 0)
			same(t, fmt.Sprintf("Step(%d): what is wrong", n), e, api.ErrNil)
		}
	}
	for name, call := range calls {
		for what, w := range notGiven() {
			t.Run(what+", first "+name, func(t *testing.T) {
				call(t, w)
				checkNone(t, "behind it", w)
				for _, other := range calls {
					other(t, w)
				}
				checkNone(t, "behind all calls", w)
			})
		}
	}
	var flat Wiping
	wiped, e := flat.Step(1)
	same(t, "Step of a zero wiping as a value", wiped, 0)
	same(t, "Step of a zero wiping as a value: what is wrong", e, api.ErrNil)
	checkNone(t, "a zero wiping as a value", &flat)
}

// Promises 18.1 to 18.3: wipings of different chunks do not meet.
func TestWipingsOfDifferentChunks(t *testing.T) {
	one, other, last := at(t, 100, 0), at(t, 100, 0), at(t, 1000, 0)
	for turn := range 60 {
		one.step(t, 1+turn%4)
		one.check(t, "the first one")
		other.check(t, "another one, behind a step of the first")
		if turn%3 == 0 {
			other.step(t, 5)
		}
		last.step(t, turn*7%50)
		one.check(t, "the first one, behind steps of others")
		other.check(t, "another one")
		last.check(t, "a greater one")
	}
}

// Promises 18.1 to 18.3: two wipings of the same chunk have a place each, and wipe the same bytes.
func TestWipingsOfTheSameChunk(t *testing.T) {
	for _, size := range []int{1, 64, 65, 200} {
		for first := 1; first <= size; first += 1 + size/20 {
			c := full(t, size)
			one, other := begun(t, c), begun(t, c)
			one.step(t, first)
			one.check(t, "the first one")
			other.check(t, "another one of the same chunk, that stands at 0 still")
			c.store(t, 0, "z")
			other.step(t, 1)
			c.check(t, "what both wipe")
			last := begun(t, c)
			for !other.wiping.Done() && !t.Failed() {
				other.step(t, 3)
				one.check(t, "the first one, behind a step of the other")
				other.check(t, "the other one")
			}
			last.check(t, "one that began last")
			one.step(t, top)
			one.check(t, "the first one, done")
		}
	}
}

// numbers are what Steps may be handed: about 0, about powers of two, about the greatest and the smallest int.
func numbers() []int {
	l := []int{low, low + 1, low + 2, low / 2, -1 << 32, -greatest, -130, -64, -2, -1, 0}
	for n := 1; n <= 12; n++ {
		l = append(l, n)
	}
	for power := 4; power < 63; power++ {
		l = append(l, 1<<power-1, 1<<power, 1<<power+1)
	}
	return append(l, 130, 1000, 999999, 3037000499, 3037000500, top/3, top/2, top/2+1, top/2+2, top-2, top-1, top)
}

// Promise 18.3: Steps of all numbers: how many times n is the size or more, and fewer are not, without a bound on what fits; 0 of what may not be.
func TestSteps(t *testing.T) {
	for _, size := range numbers() {
		for _, n := range numbers() {
			what := fmt.Sprintf("Steps(%d, %d)", size, n)
			got := Steps(size, n)
			if size < 0 || n < 1 {
				same(t, what, got, 0)
				continue
			}
			above := new(big.Int).Add(big.NewInt(int64(size)), big.NewInt(int64(n)-1))
			same(t, what, big.NewInt(int64(got)).Cmp(above.Div(above, big.NewInt(int64(n)))), 0)
		}
	}
	for size := range 300 {
		for n := 1; n <= 310; n++ {
			want := 0
			for left := size; left > 0; left -= n {
				want++
			}
			same(t, fmt.Sprintf("Steps(%d, %d)", size, n), Steps(size, n), want)
		}
	}
}

// Promise 18.3: Steps at the edges, told here by their numbers.
func TestStepsAtTheEdges(t *testing.T) {
	for _, row := range [][3]int{
		{130, 64, 3}, {128, 64, 2}, {129, 64, 3}, {127, 64, 2}, {64, 64, 1}, {63, 64, 1}, {1, 64, 1}, {1, 1, 1}, {2, 1, 2},
		{0, 1, 0}, {0, 64, 0}, {0, top, 0}, {0, 0, 0}, {0, -1, 0}, {0, low, 0},
		{1, top, 1}, {top - 1, top, 1}, {top, top, 1}, {top, top - 1, 2}, {top, 1, top}, {top - 1, 1, top - 1}, {top, 2, 1 << 62}, {top - 1, 2, 1<<62 - 1}, {top, top/2 + 1, 2}, {top, top / 2, 3},
		{-1, 1, 0}, {-64, 64, 0}, {low, 1, 0}, {low, top, 0}, {low, -1, 0}, {low, low, 0}, {-130, -64, 0}, {130, -64, 0}, {130, 0, 0}, {64, low, 0}, {top, 0, 0}, {top, -1, 0}, {top, low, 0},
		{greatest, 1, greatest}, {greatest, greatest, 1}, {greatest, greatest - 1, 2}, {greatest + 1, greatest, 2},
	} {
		same(t, fmt.Sprintf("Steps(%d, %d)", row[0], row[1]), Steps(row[0], row[1]), row[2])
	}
}

// Promise 18.4: as many steps of n as Steps tells make a wiping done, one fewer do not, and the bytes are all 0 then.
func TestDoneBehindSteps(t *testing.T) {
	all := func(size, n int) {
		b := full(t, size).bytes
		w := Begin(b)
		what := fmt.Sprintf("%d bytes by %d", size, n)
		for turn := range Steps(size, n) {
			same(t, fmt.Sprintf("%s, behind %d steps: Done", what, turn), w.Done(), false)
			same(t, fmt.Sprintf("%s, behind %d steps: Clean", what, turn), b.Clean(), false)
			_, e := w.Step(n)
			same(t, what+": what is wrong", e, api.OK)
		}
		same(t, what+": Done", w.Done(), true)
		same(t, what+": Clean", b.Clean(), true)
		same(t, what+": Left", w.Left(), 0)
	}
	for size := 1; size <= 140; size++ {
		for n := 1; n <= size+2; n++ {
			all(size, n)
		}
		all(size, top)
	}
	for _, size := range sizes() {
		for _, n := range []int{60, 63, 64, 65, 100, 1000, size / 2, size - 1, size, size + 1, greatest, top} {
			if n > 0 && size/n < 1200 {
				all(size, n)
			}
		}
	}
	for _, n := range []int{4096, 1 << 16, greatest/3 + 1, greatest - 1, greatest, greatest + 1, top} {
		all(greatest, n)
	}
}

// luck is a row of numbers that is the same at each run.
type luck uint64

func (l *luck) below(n int) int {
	*l = *l*6364136223846793005 + 1442695040888963407
	return int(uint64(*l) >> 33 % uint64(n))
}

// Promises 18.2 to 18.4: all short rows of steps on small chunks, refused ones among them, end alike, in whatever parts they are told.
func TestShortRows(t *testing.T) {
	tries := []int{-1, 0, 1, 2, 3, top}
	for size := 1; size <= 5; size++ {
		for row := range 6 * 6 * 6 * 6 * 6 {
			p := begun(t, full(t, size))
			for turn, rest := 0, row; turn < 5; turn, rest = turn+1, rest/6 {
				p.step(t, tries[rest%6])
				p.checkPlace(t, "a short row")
			}
			p.check(t, fmt.Sprintf("row %d on %d bytes", row, size))
			if t.Failed() {
				return
			}
		}
	}
}

// Promises 18.1 to 18.4: long rows of steps and stores, with wipings that begin and end, all told behind each of them.
func TestLongRows(t *testing.T) {
	for k, size := range []int{1, 2, 63, 64, 65, 129, 700} {
		l := luck(k + 1)
		p := begun(t, full(t, size))
		for range 1500 {
			switch l.below(8) {
			case 0:
				p.step(t, -l.below(3))
			case 1:
				from := l.below(size)
				p.store(t, from, pattern(1+l.below(size-from), 1+l.below(255)))
			case 2:
				if p.wiping.Done() {
					p = begun(t, p.chunk)
				}
			default:
				p.step(t, 1+l.below(1+l.below(2*size)))
			}
			p.check(t, fmt.Sprintf("a long row on %d bytes", size))
			if t.Failed() {
				return
			}
		}
	}
}

// Promise 18.3: who asks for the place while steps are made is told places that never fall, and are no more than the size.
func TestPlaceAtTheSameTime(t *testing.T) {
	const size, n = 1 << 16, 16
	w := Begin(full(t, size).bytes)
	var all sync.WaitGroup
	for range 4 {
		all.Go(func() {
			for place := 0; !w.Done(); {
				next := w.Place()
				if next < place || next > size || w.Left() > size-next {
					t.Errorf("the place is %d behind %d, and %d are left", next, place, w.Left())
					return
				}
				place = next
			}
		})
	}
	for range Steps(size, n) {
		if _, e := w.Step(n); e != api.OK {
			t.Error("Step is refused")
		}
	}
	all.Wait()
	same(t, "Done", w.Done(), true)
}
