package tags

import (
	"fmt"
	"math"
	"slices"
	"testing"

	"copyhold/api"
)

const (
	top    = math.MaxInt64
	low    = math.MinInt64
	most   = 1048576 // the most chunks, and below it the greatest generation, told here by their numbers: the package's own could be wrong
	oldest = 1048575
)

func same[T comparable](t *testing.T, what string, got, want T) {
	t.Helper()
	if got != want {
		t.Errorf("%s: %v, want %v", what, got, want)
	}
}

func sameList(t *testing.T, what string, got, want []int) {
	t.Helper()
	if !slices.Equal(got, want) {
		t.Errorf("%s: %s, want %s", what, short(got), short(want))
	}
}

// short is the list as a text, of which the middle is left out if there is much.
func short(l []int) string {
	if len(l) > 12 {
		return fmt.Sprintf("%v .. %d numbers .. %v", l[:4], len(l), l[len(l)-4:])
	}
	return fmt.Sprint(l)
}

// both is what is told of a chunk.
type both struct{ owner, gen int }

// plain is what tags have to be: what each chunk has; given is not set of tags that New did not give.
type plain struct {
	given  bool
	chunks []both
}

// fresh are tags of n chunks that nobody has.
func fresh(n int) *plain {
	return &plain{true, make([]both, n)}
}

// copied are tags alike.
func (p *plain) copied() *plain {
	return &plain{p.given, slices.Clone(p.chunks)}
}

// has tells whether there is such a chunk.
func (p *plain) has(i int) bool {
	return i >= 0 && i < len(p.chunks)
}

// own is what Own has to tell, and does what it has to do.
func (p *plain) own(i, owner int) api.Errno {
	switch {
	case !p.given:
		return api.ErrNil
	case !p.has(i) || owner < 1:
		return api.ErrArg
	case p.chunks[i].owner != 0:
		return api.ErrTwice
	}
	p.chunks[i].owner = owner
	return api.OK
}

// leave is what Leave has to tell, and does what it has to do.
func (p *plain) leave(i int) api.Errno {
	switch {
	case !p.given:
		return api.ErrNil
	case !p.has(i):
		return api.ErrArg
	case p.chunks[i].owner == 0:
		return api.ErrNone
	}
	p.chunks[i].owner = 0
	return api.OK
}

// raise is what Raise has to tell, and does what it has to do.
func (p *plain) raise(i int) api.Errno {
	switch {
	case !p.given:
		return api.ErrNil
	case !p.has(i):
		return api.ErrArg
	case p.chunks[i].owner != 0:
		return api.ErrTwice
	case p.chunks[i].gen+1 > oldest:
		return api.ErrOver
	}
	p.chunks[i].gen++
	return api.OK
}

// hand is what Hand has to tell, and does what it has to do.
func (p *plain) hand(from, to int) int {
	if from < 1 || to < 1 || from == to {
		return 0
	}
	handed := 0
	for i := range p.chunks {
		if p.chunks[i].owner == from {
			p.chunks[i].owner = to
			handed++
		}
	}
	return handed
}

// owner is what Owner has to tell.
func (p *plain) owner(i int) int {
	if !p.has(i) {
		return 0
	}
	return p.chunks[i].owner
}

// gen is what Gen has to tell.
func (p *plain) gen(i int) int {
	if !p.has(i) {
		return -1
	}
	return p.chunks[i].gen
}

// of is what Of has to tell.
func (p *plain) of(owner int) []int {
	var l []int
	for i, chunk := range p.chunks {
		if owner >= 1 && chunk.owner == owner {
			l = append(l, i)
		}
	}
	return l
}

// owners is what Owners has to tell.
func (p *plain) owners() []int {
	var l []int
	for _, chunk := range p.chunks {
		if chunk.owner != 0 && !slices.Contains(l, chunk.owner) {
			l = append(l, chunk.owner)
		}
	}
	slices.Sort(l)
	return l
}

// places are numbers of chunks: those of tags of that size, and such as none has.
func places(size int) []int {
	l := []int{low, low + 1, -most - 1, -most, -size - 1, -size, -2, -1, 0, 1, size - 1, size, size + 1, size + 2, oldest, most, most + 1, 1 << 32, 1<<32 + 1, 1<<62 + 1, top - 1, top}
	for i := range min(size, 70) {
		l = append(l, i, size-1-i)
	}
	slices.Sort(l)
	return slices.Compact(l)
}

// some are numbers of owners, and such as no owner has.
func some() []int {
	return []int{low, low + 1, -1 << 32, -7, -2, -1, 0, 1, 2, 3, 7, 64, 65, oldest, most, 1 << 32, 1<<32 + 1, 1 << 60, top - 1, top}
}

// check holds all that tags tell against what they have to be.
func check(t *testing.T, what string, tags *Tags, want *plain) {
	t.Helper()
	for _, i := range places(len(want.chunks)) {
		if got := tags.Owner(i); got != want.owner(i) {
			t.Errorf("%s: Owner(%d) is %d, want %d", what, i, got, want.owner(i))
		}
		if got := tags.Gen(i); got != want.gen(i) {
			t.Errorf("%s: Gen(%d) is %d, want %d", what, i, got, want.gen(i))
		}
	}
	owners := want.owners()
	if got := tags.Owners(); !slices.Equal(got, owners) {
		t.Errorf("%s: Owners is %s, want %s", what, short(got), short(owners))
	}
	for _, owner := range append(some(), owners...) {
		of := want.of(owner)
		if got := tags.Of(owner); !slices.Equal(got, of) {
			t.Errorf("%s: Of(%d) is %s, want %s", what, owner, short(got), short(of))
		}
		if got := tags.Count(owner); got != len(of) {
			t.Errorf("%s: Count(%d) is %d, want %d", what, owner, got, len(of))
		}
	}
}

// pair is tags and what they have to be.
type pair struct {
	tags *Tags
	want *plain
}

// paired is new tags of n chunks.
func paired(t *testing.T, n int) pair {
	t.Helper()
	tags := New(n)
	if tags == nil {
		t.Fatalf("New(%d) is nil", n)
	}
	return pair{tags, fresh(n)}
}

// owned is new tags whose chunks have these owners, of generations that are not alike.
func owned(t *testing.T, owners ...int) pair {
	t.Helper()
	p := paired(t, len(owners))
	for i, owner := range owners {
		for range i % 4 {
			p.raise(t, i)
		}
		if owner != 0 {
			same(t, fmt.Sprintf("Own(%d, %d) at first", i, owner), p.own(t, i, owner), api.OK)
		}
	}
	return p
}

// own, leave, raise and hand do it to both, and hold what is told.
func (p pair) own(t *testing.T, i, owner int) api.Errno {
	t.Helper()
	wrong := p.want.own(i, owner)
	if got := p.tags.Own(i, owner); got != wrong {
		t.Errorf("Own(%d, %d): %d, want %d", i, owner, got, wrong)
	}
	return wrong
}

func (p pair) leave(t *testing.T, i int) api.Errno {
	t.Helper()
	wrong := p.want.leave(i)
	if got := p.tags.Leave(i); got != wrong {
		t.Errorf("Leave(%d): %d, want %d", i, got, wrong)
	}
	return wrong
}

func (p pair) raise(t *testing.T, i int) api.Errno {
	t.Helper()
	wrong := p.want.raise(i)
	if got := p.tags.Raise(i); got != wrong {
		t.Errorf("Raise(%d): %d, want %d", i, got, wrong)
	}
	return wrong
}

func (p pair) hand(t *testing.T, from, to int) int {
	t.Helper()
	handed := p.want.hand(from, to)
	if got := p.tags.Hand(from, to); got != handed {
		t.Errorf("Hand(%d, %d): %d, want %d", from, to, got, handed)
	}
	return handed
}

func (p pair) check(t *testing.T, what string) {
	t.Helper()
	check(t, what, p.tags, p.want)
}

// notGiven are tags that New did not give.
func notGiven() map[string]*Tags {
	return map[string]*Tags{"nil tags": nil, "zero tags": {}, "new zero tags": new(Tags), "no tags of New(-1)": New(-1)}
}

// Promise 16.1: tags of as many chunks as are asked for, which nobody has, of generation 0.
func TestNew(t *testing.T) {
	for n := range 67 {
		p := paired(t, n)
		what := fmt.Sprintf("new tags of %d", n)
		p.check(t, what)
		same(t, what+": Own of the one ahead", p.own(t, -1, 5), api.ErrArg)
		same(t, what+": Own of the one behind", p.own(t, n, 5), api.ErrArg)
		p.check(t, what+" behind what was refused")
		for i := range n {
			same(t, fmt.Sprintf("%s: Own(%d, 5)", what, i), p.own(t, i, 5), api.OK)
		}
		p.check(t, what+", all of one")
	}
}

// Promise 16.1: nil of what is not from 0 to 2^20, tags of what is.
func TestNewAtTheEdges(t *testing.T) {
	for _, n := range []int{low, low + 1, -1 << 32, -most - 1, -most, -2, -1, most + 1, most + 2, 2 * most, 1<<32 - 1, 1 << 32, 1<<32 + 1, 1 << 62, top - 1, top} {
		if tags := New(n); tags != nil {
			t.Errorf("New(%d) is not nil", n)
		}
	}
	for _, n := range []int{most - 1, most} {
		p := paired(t, n)
		what := fmt.Sprintf("new tags of %d", n)
		p.check(t, what)
		same(t, what+": Own of the last one", p.own(t, n-1, 3), api.OK)
		same(t, what+": Own of the one behind", p.own(t, n, 3), api.ErrArg)
		same(t, what+": Raise of the first one", p.raise(t, 0), api.OK)
		p.check(t, what+", the last one of 3")
	}
}

// Promise 16.1: tags of no chunks are given, and every chunk is none of theirs.
func TestNewOfNone(t *testing.T) {
	p := paired(t, 0)
	for _, i := range places(0) {
		for _, owner := range some() {
			same(t, fmt.Sprintf("Own(%d, %d) of no chunks", i, owner), p.own(t, i, owner), api.ErrArg)
		}
		same(t, fmt.Sprintf("Leave(%d) of no chunks", i), p.leave(t, i), api.ErrArg)
		same(t, fmt.Sprintf("Raise(%d) of no chunks", i), p.raise(t, i), api.ErrArg)
	}
	for _, from := range some() {
		for _, to := range some() {
			same(t, fmt.Sprintf("Hand(%d, %d) of no chunks", from, to), p.hand(t, from, to), 0)
		}
	}
	p.check(t, "tags of no chunks")
}

// Promises 16.2 and 16.3: the chapter's example.
func TestExample(t *testing.T) {
	tags := New(3)
	same(t, "Own(2, 7)", tags.Own(2, 7), api.OK)
	same(t, "Own(0, 7)", tags.Own(0, 7), api.OK)
	same(t, "Of(7)", fmt.Sprint(tags.Of(7)), "[0 2]")
	same(t, "Count(7)", tags.Count(7), 2)
	same(t, "Owners", fmt.Sprint(tags.Owners()), "[7]")
	same(t, "Owner(1)", tags.Owner(1), 0)
	same(t, "Owner(2)", tags.Owner(2), 7)
}

// Promises 16.2, 16.3 and 16.5: tags that New did not give tell ErrNil, whatever they are asked to do, 0, none and -1, and stay as they were.
func TestNilAndZeroTags(t *testing.T) {
	for what, tags := range notGiven() {
		none := &plain{}
		check(t, what, tags, none)
		for _, i := range places(4) {
			for _, owner := range some() {
				same(t, fmt.Sprintf("%s: Own(%d, %d)", what, i, owner), tags.Own(i, owner), api.ErrNil)
				same(t, fmt.Sprintf("%s: Hand(%d, %d)", what, i, owner), tags.Hand(i, owner), 0)
			}
			same(t, fmt.Sprintf("%s: Leave(%d)", what, i), tags.Leave(i), api.ErrNil)
			same(t, fmt.Sprintf("%s: Raise(%d)", what, i), tags.Raise(i), api.ErrNil)
			same(t, fmt.Sprintf("%s: Owner(%d)", what, i), tags.Owner(i), 0)
			same(t, fmt.Sprintf("%s: Gen(%d)", what, i), tags.Gen(i), -1)
			same(t, fmt.Sprintf("%s: Count(%d)", what, i), tags.Count(i), 0)
			same(t, fmt.Sprintf("%s: how many Of(%d) are", what, i), len(tags.Of(i)), 0)
		}
		same(t, what+": how many owners", len(tags.Owners()), 0)
		check(t, what+" behind all calls", tags, none)
	}
	var flat Tags
	same(t, "Own of zero tags as a value", flat.Own(0, 1), api.ErrNil)
	check(t, "zero tags as a value", &flat, &plain{})
}

// states are tags of some sizes, whose chunks have owners and have none, each made anew by its function.
func states(t *testing.T) map[string]func() pair {
	return map[string]func() pair{
		"one that nobody has":     func() pair { return owned(t, 0) },
		"one of 1":                func() pair { return owned(t, 1) },
		"one of the greatest int": func() pair { return owned(t, top) },
		"two, the first of 7":     func() pair { return owned(t, 7, 0) },
		"two, the last of 7":      func() pair { return owned(t, 0, 7) },
		"five of three and none":  func() pair { return owned(t, 2, 0, top, 2, 1) },
		"four of 64":              func() pair { return owned(t, 64, 64, 64, 64) },
		"one as old as may be": func() pair {
			p := paired(t, 1)
			for range oldest {
				p.tags.Raise(0)
			}
			p.want.chunks[0].gen = oldest
			return p
		},
		"one of 3, as old as may be": func() pair {
			p := paired(t, 2)
			for range oldest {
				p.tags.Raise(1)
			}
			p.want.chunks[1].gen = oldest
			same(t, "Own of the oldest one", p.own(t, 1, 3), api.OK)
			return p
		},
	}
}

// Promise 16.2: Own of any chunk by any owner: what it tells, that it changes nothing where it is refused, and no other chunk where it is not.
func TestOwnAllPairs(t *testing.T) {
	for what, state := range states(t) {
		p := state()
		for _, i := range places(len(p.want.chunks)) {
			for _, owner := range some() {
				was := p.want.copied()
				if p.own(t, i, owner) != api.OK {
					check(t, fmt.Sprintf("%s, behind a refused Own(%d, %d)", what, i, owner), p.tags, was)
					continue
				}
				was.chunks[i].owner = owner
				check(t, fmt.Sprintf("%s, behind Own(%d, %d)", what, i, owner), p.tags, was)
				same(t, "Leave of what was taken", p.leave(t, i), api.OK)
			}
		}
		p.check(t, what+", behind all Owns")
	}
}

// Promise 16.2: so it is of Leave and of Raise.
func TestLeaveAndRaiseOfAll(t *testing.T) {
	for what, state := range states(t) {
		p := state()
		for _, i := range places(len(p.want.chunks)) {
			was := p.want.copied()
			if p.raise(t, i) == api.OK {
				was.chunks[i].gen++
			}
			check(t, fmt.Sprintf("%s, behind Raise(%d)", what, i), p.tags, was)
			if p.leave(t, i) == api.OK {
				was.chunks[i].owner = 0
			}
			check(t, fmt.Sprintf("%s, behind Leave(%d)", what, i), p.tags, was)
			same(t, fmt.Sprintf("%s: whether Leave(%d) once more is refused", what, i), p.leave(t, i) != api.OK, true)
			if p.raise(t, i) == api.OK {
				was.chunks[i].gen++
			}
			check(t, fmt.Sprintf("%s, behind Raise(%d) of what nobody has", what, i), p.tags, was)
		}
	}
}

// Promise 16.2: which error is told where several would do.
func TestWhichErrorComesFirst(t *testing.T) {
	mine, nobodys, old := owned(t, 5).tags, New(1), paired(t, 2)
	for range oldest {
		old.tags.Raise(0)
		old.tags.Raise(1)
	}
	old.tags.Own(1, 5)
	for _, row := range []struct {
		what string
		got  api.Errno
		want api.Errno
	}{
		{"Own: no tags, no chunk, no owner", (*Tags)(nil).Own(-1, 0), api.ErrNil},
		{"Own: no tags, no chunk", (*Tags)(nil).Own(0, 5), api.ErrNil},
		{"Own: zero tags, no chunk, no owner", new(Tags).Own(0, -1), api.ErrNil},
		{"Own: zero tags, no chunk", new(Tags).Own(0, 5), api.ErrNil},
		{"Leave: no tags, no chunk", (*Tags)(nil).Leave(0), api.ErrNil},
		{"Leave: zero tags, no chunk", new(Tags).Leave(0), api.ErrNil},
		{"Raise: no tags, no chunk", (*Tags)(nil).Raise(0), api.ErrNil},
		{"Raise: zero tags, no chunk", new(Tags).Raise(0), api.ErrNil},
		{"Own: no chunk, no owner", mine.Own(1, 0), api.ErrArg},
		{"Own: no chunk", mine.Own(1, 5), api.ErrArg},
		{"Own: no owner, it has one", mine.Own(0, 0), api.ErrArg},
		{"Own: no owner by far, it has one", mine.Own(0, low), api.ErrArg},
		{"Own: no owner, it has none", nobodys.Own(0, 0), api.ErrArg},
		{"Own: below 0, it has none", nobodys.Own(0, -1), api.ErrArg},
		{"Own: it has that one", mine.Own(0, 5), api.ErrTwice},
		{"Own: it has another one", mine.Own(0, 6), api.ErrTwice},
		{"Own: it has one, and is as old as may be", old.tags.Own(1, 5), api.ErrTwice},
		{"Leave: no chunk", mine.Leave(1), api.ErrArg},
		{"Leave: no chunk, ahead of all", mine.Leave(-1), api.ErrArg},
		{"Leave: it has none", nobodys.Leave(0), api.ErrNone},
		{"Leave: it has none, and is as old as may be", old.tags.Leave(0), api.ErrNone},
		{"Raise: no chunk", mine.Raise(1), api.ErrArg},
		{"Raise: no chunk, where one is as old as may be", old.tags.Raise(2), api.ErrArg},
		{"Raise: it has one", mine.Raise(0), api.ErrTwice},
		{"Raise: it has one, and is as old as may be", old.tags.Raise(1), api.ErrTwice},
		{"Raise: it is as old as may be", old.tags.Raise(0), api.ErrOver},
	} {
		same(t, row.what, row.got, row.want)
	}
}

// Promise 16.2: a chunk that has an owner is taken by nobody, not by that one either, until it is left; then by the same or another.
func TestOwnTwiceAndAnew(t *testing.T) {
	for _, first := range []int{1, 2, 64, 1 << 40, top} {
		for _, then := range []int{1, 2, 64, 1 << 40, top} {
			for i := range 3 {
				what := fmt.Sprintf("chunk %d, %d and %d", i, first, then)
				p := paired(t, 3)
				same(t, what+": Own", p.own(t, i, first), api.OK)
				same(t, what+": Own by the same", p.own(t, i, first), api.ErrTwice)
				same(t, what+": Own by another", p.own(t, i, then), api.ErrTwice)
				p.check(t, what+", of the first")
				same(t, what+": Leave", p.leave(t, i), api.OK)
				p.check(t, what+", of nobody")
				same(t, what+": Leave once more", p.leave(t, i), api.ErrNone)
				same(t, what+": Own anew", p.own(t, i, then), api.OK)
				same(t, what+": Own by the first", p.own(t, i, first), api.ErrTwice)
				p.check(t, what+", of the other")
			}
		}
	}
}

// Promise 16.2: generations rise by one, up to 2^20 - 1 and no farther; neither Own nor Leave changes any.
func TestRaiseUpToTheOldest(t *testing.T) {
	p := paired(t, 3)
	for gen := 1; gen <= oldest; gen++ {
		if wrong, got := p.tags.Raise(1), p.tags.Gen(1); wrong != api.OK || got != gen {
			t.Fatalf("Raise to %d: %d, and the generation is %d", gen, wrong, got)
		}
	}
	p.want.chunks[1].gen = oldest
	p.check(t, "one as old as may be")
	for range 3 {
		same(t, "Raise once more", p.raise(t, 1), api.ErrOver)
		p.check(t, "one as old as may be, behind a refused Raise")
	}
	same(t, "Own of the oldest one", p.own(t, 1, 9), api.OK)
	same(t, "Raise of the oldest one that has an owner", p.raise(t, 1), api.ErrTwice)
	p.check(t, "one of 9, as old as may be")
	same(t, "Hand of the oldest one", p.hand(t, 9, 8), 1)
	p.check(t, "one of 8, as old as may be")
	same(t, "Leave of the oldest one", p.leave(t, 1), api.OK)
	same(t, "Raise of the oldest one, once left", p.raise(t, 1), api.ErrOver)
	same(t, "Raise of another one", p.raise(t, 2), api.OK)
	p.check(t, "one as old as may be, and another of generation 1")
}

// Promise 16.2: neither Own nor Leave changes a generation, and Raise changes no owner.
func TestGenerationsStay(t *testing.T) {
	for gen := range 6 {
		p := paired(t, 3)
		for range gen {
			same(t, "Raise", p.raise(t, 1), api.OK)
		}
		for owner := 1; owner < 5; owner++ {
			same(t, "Own", p.own(t, 1, owner), api.OK)
			same(t, "Gen behind Own", p.tags.Gen(1), gen)
			same(t, "Raise of what has an owner", p.raise(t, 1), api.ErrTwice)
			same(t, "Gen behind a refused Raise", p.tags.Gen(1), gen)
			same(t, "Owner behind a refused Raise", p.tags.Owner(1), owner)
			same(t, "Leave", p.leave(t, 1), api.OK)
			same(t, "Gen behind Leave", p.tags.Gen(1), gen)
		}
		same(t, "Raise of what was left", p.raise(t, 1), api.OK)
		same(t, "Gen behind it", p.tags.Gen(1), gen+1)
		same(t, "Owner behind it", p.tags.Owner(1), 0)
		p.check(t, "tags behind all that")
	}
}

// Promise 16.3: Of and Count of owners that have none, one, several and all, of one that has none any more, and of no owner.
func TestOfAndCount(t *testing.T) {
	for _, row := range []struct {
		owners []int
		owner  int
		want   []int
	}{
		{nil, 1, nil},
		{[]int{0, 0, 0}, 1, nil}, {[]int{0, 0, 0}, 0, nil}, {[]int{0, 0, 0}, -1, nil}, {[]int{0, 0, 0}, low, nil}, {[]int{0, 0, 0}, top, nil},
		{[]int{4, 0, 0}, 4, []int{0}}, {[]int{0, 4, 0}, 4, []int{1}}, {[]int{0, 0, 4}, 4, []int{2}}, {[]int{4, 4, 4}, 4, []int{0, 1, 2}},
		{[]int{4, 0, 4}, 0, nil}, {[]int{4, 0, 4}, -4, nil}, {[]int{4, 0, 4}, 5, nil}, {[]int{4, 5, 4}, 4, []int{0, 2}}, {[]int{4, 5, 4}, 5, []int{1}},
		{[]int{top, 1, top, 1}, top, []int{0, 2}}, {[]int{top, 1, top, 1}, 1, []int{1, 3}}, {[]int{top, 1, top, 1}, -1, nil}, {[]int{top, 1, top, 1}, low, nil},
		{[]int{1, 1<<32 + 1, 1}, 1, []int{0, 2}}, {[]int{1, 1<<32 + 1, 1}, 1<<32 + 1, []int{1}}, {[]int{1 << 32}, 0, nil},
	} {
		p := owned(t, row.owners...)
		what := fmt.Sprintf("Of(%d), where the owners are %v", row.owner, row.owners)
		sameList(t, what, p.tags.Of(row.owner), row.want)
		same(t, what+": Count", p.tags.Count(row.owner), len(row.want))
		p.check(t, what)
		for _, i := range row.want {
			same(t, what+": Leave", p.leave(t, i), api.OK)
			p.check(t, what+", as they are left")
		}
		same(t, what+": Count of one that has none any more", p.tags.Count(row.owner), 0)
		same(t, what+": how many are of one that has none any more", len(p.tags.Of(row.owner)), 0)
		for _, i := range row.want {
			same(t, what+": Own by another", p.own(t, i, 99), api.OK)
			p.check(t, what+", as another takes them")
		}
	}
}

// orders are all orders of so many.
func orders(many int) [][]int {
	if many == 0 {
		return [][]int{nil}
	}
	var all [][]int
	for _, order := range orders(many - 1) {
		for at := range many {
			all = append(all, slices.Insert(slices.Clone(order), at, many-1))
		}
	}
	return all
}

// Promises 16.3 and 16.5: Of and Owners are rising, whatever the order in which chunks were taken, left and taken again.
func TestRisingInAnyOrder(t *testing.T) {
	for _, order := range orders(6) {
		p := paired(t, 6)
		for at, i := range order {
			same(t, "Own", p.own(t, i, 3-at%3), api.OK)
		}
		p.check(t, fmt.Sprint("taken in the order ", order))
		for _, i := range order[:4] {
			same(t, "Leave", p.leave(t, i), api.OK)
		}
		p.check(t, fmt.Sprint("left in the order ", order[:4]))
		for _, i := range order[:4] {
			same(t, "Own anew", p.own(t, i, 1+i/2), api.OK)
		}
		p.check(t, fmt.Sprint("taken again in the order ", order[:4]))
	}
	const size = 1000
	p := paired(t, size)
	for at := range size {
		same(t, "Own", p.own(t, (at*611+97)%size, 5+at%2), api.OK)
	}
	p.check(t, "many that were taken in no order")
	for at := range size {
		if at%3 == 0 {
			same(t, "Leave", p.leave(t, (at*389+5)%size), api.OK)
		}
	}
	p.check(t, "many that were left in no order")
}

// Promises 16.3 and 16.5: lists are one's own: no later call changes them, and what is changed in them changes nothing.
func TestListsAreOnesOwn(t *testing.T) {
	p := owned(t, 6, 4, 6, 0, 4, 6)
	of, owners, otherOf, otherOwners := p.tags.Of(6), p.tags.Owners(), p.tags.Of(6), p.tags.Owners()
	p.leave(t, 2)
	p.own(t, 3, 6)
	p.own(t, 2, 1)
	p.hand(t, 4, 9)
	p.raise(t, 3)
	sameList(t, "a list of Of behind later calls", of, []int{0, 2, 5})
	sameList(t, "a list of Owners behind later calls", owners, []int{4, 6})
	p.check(t, "tags behind these calls")
	p.hand(t, 6, 1)
	sameList(t, "a list of Of behind Hand", of, []int{0, 2, 5})
	sameList(t, "a list of Owners behind Hand", owners, []int{4, 6})
	for i := range of {
		of[i] = -5
	}
	for i := range owners {
		owners[i] = 77
	}
	_, _ = append(of, 1), append(owners, 2)
	sameList(t, "another list of Of", otherOf, []int{0, 2, 5})
	sameList(t, "another list of Owners", otherOwners, []int{4, 6})
	p.check(t, "tags whose lists were changed")
	last := p.tags.Of(1)
	last[0] = 3
	_ = append(last[:1], 9)
	p.check(t, "tags whose last list was changed")
	same(t, "Leave behind it", p.leave(t, 0), api.OK)
	p.check(t, "tags that go on behind it")
}

// Promise 16.5: all owners that have a chunk, rising, each once, behind Own, Leave and Hand.
func TestOwners(t *testing.T) {
	for _, row := range []struct {
		owners []int
		want   []int
	}{
		{nil, nil}, {[]int{0}, nil}, {[]int{0, 0, 0}, nil},
		{[]int{1}, []int{1}}, {[]int{top}, []int{top}}, {[]int{0, 5, 0}, []int{5}}, {[]int{5, 5, 5}, []int{5}},
		{[]int{9, 5, 7}, []int{5, 7, 9}}, {[]int{9, 5, 9, 5, 0}, []int{5, 9}}, {[]int{top, 1, top - 1}, []int{1, top - 1, top}},
		{[]int{10, 9, 100, 1 << 40, 1 << 32, 1}, []int{1, 9, 10, 100, 1 << 32, 1 << 40}}, // not as texts are in order
		{[]int{8, 7, 6, 5, 4, 3, 2, 1}, []int{1, 2, 3, 4, 5, 6, 7, 8}},
	} {
		p := owned(t, row.owners...)
		what := fmt.Sprintf("Owners, where they are %v", row.owners)
		sameList(t, what, p.tags.Owners(), row.want)
		for i, owner := range row.owners {
			if owner != 0 {
				same(t, what+": Leave", p.leave(t, i), api.OK)
				p.check(t, what+", as chunks are left")
			}
		}
		same(t, what+": how many when all is left", len(p.tags.Owners()), 0)
	}
	const size = 3000
	p := paired(t, size)
	for i := range size {
		same(t, "Own", p.own(t, i, 1+(i*1471)%size), api.OK)
	}
	all := p.tags.Owners()
	same(t, "how many owners", len(all), size)
	for place, owner := range all {
		if owner != place+1 {
			t.Fatalf("owner %d is at %d", owner, place)
		}
	}
}

// Promise 16.5: what Hand tells and does, of one that has some to one that has none, to one that has some, from one that has none, to the same, and with one below 1.
func TestHand(t *testing.T) {
	start := []int{3, 8, 0, 3, 5, 8, 3, top}
	for _, row := range []struct {
		what     string
		from, to int
		handed   int
		want     []int // the owners behind it
	}{
		{"some to one that has none", 3, 4, 3, []int{4, 8, 0, 4, 5, 8, 4, top}},
		{"some to one that has some", 3, 8, 3, []int{8, 8, 0, 8, 5, 8, 8, top}},
		{"some to one that has some, the other way", 8, 3, 2, []int{3, 3, 0, 3, 5, 3, 3, top}},
		{"one to one that has none", 5, 1, 1, []int{3, 8, 0, 3, 1, 8, 3, top}},
		{"some to the greatest int", 3, top, 3, []int{top, 8, 0, top, 5, 8, top, top}},
		{"from the greatest int", top, 3, 1, []int{3, 8, 0, 3, 5, 8, 3, 3}},
		{"to one below the greatest int", 8, top - 1, 2, []int{3, top - 1, 0, 3, 5, top - 1, 3, top}},
		{"from one that has none", 4, 3, 0, start},
		{"from one that has none to one that has none", 4, 6, 0, start},
		{"from one that has none to the same", 4, 4, 0, start},
		{"to the same", 3, 3, 0, start},
		{"the greatest int to the same", top, top, 0, start},
		{"to 0", 3, 0, 0, start},
		{"to below 0", 3, -1, 0, start},
		{"to the smallest int", 3, low, 0, start},
		{"from 0", 0, 3, 0, start},
		{"from 0 to one that has none", 0, 4, 0, start},
		{"from below 0", -1, 3, 0, start},
		{"from what is below 0 by as much", -3, 3, 0, start},
		{"from the smallest int", low, 3, 0, start},
		{"0 to 0", 0, 0, 0, start},
		{"both below 0", -1, -2, 0, start},
		{"the smallest to the greatest int", low, top, 0, start},
		{"the greatest to the smallest int", top, low, 0, start},
	} {
		p := owned(t, start...)
		same(t, row.what, p.hand(t, row.from, row.to), row.handed)
		for i, owner := range row.want {
			same(t, fmt.Sprintf("%s: Owner(%d)", row.what, i), p.tags.Owner(i), owner)
			same(t, fmt.Sprintf("%s: Gen(%d)", row.what, i), p.tags.Gen(i), i%4)
		}
		p.check(t, row.what)
		same(t, row.what+": once more", p.hand(t, row.from, row.to), 0)
		p.check(t, row.what+", once more")
	}
}

// Promise 16.5: Hand of any one to any one, of tags of all kinds.
func TestHandAllPairs(t *testing.T) {
	for what, state := range states(t) {
		p := state()
		for _, from := range some() {
			for _, to := range some() {
				p.hand(t, from, to)
				p.check(t, fmt.Sprintf("%s, behind Hand(%d, %d)", what, from, to))
			}
		}
	}
}

// Promise 16.5: what was handed is left, taken and handed on as what was taken.
func TestHandAndOn(t *testing.T) {
	p := owned(t, 1, 2, 1, 0, 2)
	same(t, "Hand(1, 2)", p.hand(t, 1, 2), 2)
	same(t, "Own of what was handed", p.own(t, 0, 1), api.ErrTwice)
	same(t, "Raise of what was handed", p.raise(t, 0), api.ErrTwice)
	same(t, "Leave of what was handed", p.leave(t, 0), api.OK)
	p.check(t, "one that was handed, and left")
	same(t, "Own by the first", p.own(t, 0, 1), api.OK)
	p.check(t, "one that was handed, left and taken again")
	same(t, "Hand(2, 1)", p.hand(t, 2, 1), 3)
	p.check(t, "all of 1")
	same(t, "Hand(1, 3)", p.hand(t, 1, 3), 4)
	for _, i := range []int{0, 1, 2, 4} {
		same(t, "Leave", p.leave(t, i), api.OK)
		p.check(t, "what is left of all of 3")
	}
	same(t, "Hand of none any more", p.hand(t, 3, 1), 0)
	p.check(t, "what nobody has")
}

// calls are all calls that change tags of two chunks or may not, each with its name.
func calls() map[string]func(t *testing.T, p pair) {
	all := map[string]func(t *testing.T, p pair){}
	for _, i := range []int{-1, 0, 1, 2} {
		for _, owner := range []int{0, 1, top} {
			all[fmt.Sprintf("Own(%d, %d)", i, owner)] = func(t *testing.T, p pair) { p.own(t, i, owner) }
		}
		all[fmt.Sprintf("Leave(%d)", i)] = func(t *testing.T, p pair) { p.leave(t, i) }
		all[fmt.Sprintf("Raise(%d)", i)] = func(t *testing.T, p pair) { p.raise(t, i) }
	}
	for _, ends := range [][2]int{{1, top}, {top, 1}, {1, 1}, {0, 1}, {1, 0}} {
		all[fmt.Sprintf("Hand%v", ends)] = func(t *testing.T, p pair) { p.hand(t, ends[0], ends[1]) }
	}
	return all
}

// Promises 16.2, 16.3 and 16.5: all short rows of calls on few chunks.
func TestAllShortRowsOfCalls(t *testing.T) {
	all := calls()
	for first, one := range all {
		for second, two := range all {
			for third, three := range all {
				for _, size := range []int{1, 2} {
					p := paired(t, size)
					one(t, p)
					two(t, p)
					three(t, p)
					if t.Failed() {
						t.Fatalf("size %d, behind %s, %s, %s", size, first, second, third)
					}
					p.check(t, fmt.Sprintf("size %d, behind %s, %s, %s", size, first, second, third))
				}
			}
		}
	}
}

// luck tells numbers that are as if drawn, the same ones each time.
type luck uint64

func (l *luck) below(n int) int {
	*l = *l*6364136223846793005 + 1442695040888963407
	return int(uint64(*l)>>33) % n
}

// owner is one of few, or what is none.
func (l *luck) owner() int {
	if all := some(); l.below(8) == 0 {
		return all[l.below(len(all))]
	}
	return 1 + l.below(5)
}

// do is one call as if drawn.
func (l *luck) do(t *testing.T, p pair) {
	t.Helper()
	i := l.below(len(p.want.chunks)+2) - 1
	switch l.below(9) {
	case 0, 1, 2:
		p.own(t, i, l.owner())
	case 3, 4:
		p.leave(t, i)
	case 5, 6, 7:
		p.raise(t, i)
	case 8:
		p.hand(t, l.owner(), l.owner())
	}
}

// follows holds what follows of any tags: whose all chunks are, and that no generation is below what it was.
func follows(t *testing.T, what string, tags *Tags, was []int) (gens []int) {
	t.Helper()
	var all []int
	for _, owner := range tags.Owners() {
		of := tags.Of(owner)
		same(t, fmt.Sprintf("%s: Count(%d)", what, owner), tags.Count(owner), len(of))
		same(t, fmt.Sprintf("%s: whether %d has none", what, owner), len(of) == 0, false)
		for _, i := range of {
			same(t, fmt.Sprintf("%s: Owner(%d)", what, i), tags.Owner(i), owner)
		}
		all = append(all, of...)
	}
	for i := range was {
		if tags.Owner(i) == 0 {
			all = append(all, i)
		}
		gens = append(gens, tags.Gen(i))
		if gens[i] < was[i] {
			t.Errorf("%s: the generation of %d is %d, and was %d", what, i, gens[i], was[i])
		}
	}
	slices.Sort(all)
	same(t, what+": how many chunks there are", len(all), len(was))
	for place, i := range all {
		same(t, what+": a chunk of all", i, place)
	}
	return gens
}

// Promises 16.2 to 16.5: long rows of calls; each chunk is one owner's at most, and no generation falls.
func TestLongRowsOfCalls(t *testing.T) {
	var l luck
	for _, size := range []int{1, 2, 5, 17, 64} {
		for range 8 {
			p := paired(t, size)
			gens := make([]int, size)
			for row := range 300 {
				l.do(t, p)
				what := fmt.Sprintf("size %d, behind %d calls", size, row+1)
				gens = follows(t, what, p.tags, gens)
				if row%10 == 9 {
					p.check(t, what)
				}
				if t.Failed() {
					t.FailNow()
				}
			}
		}
	}
}

// Promises 16.1 to 16.5: tags beside each other do not meet.
func TestTagsBesideEachOther(t *testing.T) {
	var l luck
	var all [5]pair
	for k := range all {
		all[k] = paired(t, k*k)
	}
	for range 2000 {
		l.do(t, all[l.below(len(all))])
		other := l.below(len(all))
		all[other].check(t, fmt.Sprint("tags ", other))
	}
	paired(t, 3).check(t, "new tags beside them")
	for what, tags := range notGiven() {
		check(t, what+" beside them", tags, &plain{})
	}
	one, other := paired(t, 2), paired(t, 2)
	same(t, "Own of one of two", one.own(t, 1, 7), api.OK)
	other.check(t, "the other one behind Own")
	same(t, "Own of the other of two", other.own(t, 1, 7), api.OK)
	same(t, "Hand of one of two", one.hand(t, 7, 8), 1)
	other.check(t, "the other one behind Hand")
	same(t, "Raise of one of two", one.raise(t, 0), api.OK)
	other.check(t, "the other one behind Raise")
	one.check(t, "the one")
}

// Promises 16.1 to 16.5: so it is with as many chunks as may be.
func TestTheMostChunks(t *testing.T) {
	p := paired(t, most)
	for i := range most {
		if wrong := p.tags.Own(i, 1+i%3); wrong != api.OK {
			t.Fatalf("Own(%d, %d): %d", i, 1+i%3, wrong)
		}
		p.want.chunks[i].owner = 1 + i%3
	}
	for _, many := range []struct{ owner, want int }{{1, 349526}, {2, 349525}, {3, 349525}, {4, 0}} {
		same(t, fmt.Sprintf("Count(%d)", many.owner), p.tags.Count(many.owner), many.want)
		sameList(t, fmt.Sprintf("Of(%d)", many.owner), p.tags.Of(many.owner), p.want.of(many.owner))
	}
	same(t, "Own of one more", p.tags.Own(most, 1), api.ErrArg)
	same(t, "Hand(1, 2)", p.hand(t, 1, 2), 349526)
	same(t, "Hand(3, 2)", p.hand(t, 3, 2), 349525)
	same(t, "Count of all", p.tags.Count(2), most)
	sameList(t, "Of all", p.tags.Of(2), p.want.of(2))
	sameList(t, "Owners of all", p.tags.Owners(), []int{2})
	for _, i := range []int{0, 5, most - 1} {
		same(t, "Leave", p.leave(t, i), api.OK)
	}
	sameList(t, "Of all but three", p.tags.Of(2), p.want.of(2))
	same(t, "Count of all but three", p.tags.Count(2), most-3)
}
