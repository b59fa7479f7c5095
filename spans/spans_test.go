package spans

import (
	"math"
	"slices"
	"testing"

	"copyhold/api"
)

// The small world that all short lists are laid in: its numbers are from 0 to one less than wide. By chance 2^63 - 1 is as many times wide as far, so that it can be stretched over all that an int may be.
const (
	wide = 7
	far  = math.MaxInt / wide
)

// world is the small one, moved and stretched.
type world struct {
	name           string
	moved, stretch int
}

// worlds are the small one itself, that whose end is the greatest int, and that which goes from 0 to there.
func worlds() []world {
	return []world{{"plain", 0, 1}, {"moved", math.MaxInt - wide, 1}, {"stretched", 0, far}}
}

// at is where the world has the small one's number n, of which it may be up to wide.
func (w world) at(n int) int {
	return w.moved + n*w.stretch
}

// long is how long the world has what is n long in the small one; the greatest int, where no int is as much.
func (w world) long(n int) int {
	if n > wide && w.stretch > 1 {
		return math.MaxInt
	}
	return n * w.stretch
}

// spans are those of the small world as this one has them.
func (w world) spans(l []api.Span) []api.Span {
	list := make([]api.Span, len(l))
	for i, s := range l {
		list[i] = api.Span{At: w.at(s.At), Len: w.long(s.Len)}
	}
	return list
}

// row makes spans of numbers, two for each.
func row(n ...int) []api.Span {
	var l []api.Span
	for i := 0; i < len(n); i += 2 {
		l = append(l, api.Span{At: n[i], Len: n[i+1]})
	}
	return l
}

// alone tells whether s is in order by itself, by the document's words.
func alone(s api.Span) bool {
	return s.At >= 0 && s.Len >= 1 && s.At <= math.MaxInt-s.Len
}

// ordered tells whether the spans are in order, by the document's words.
func ordered(l []api.Span) bool {
	for i, s := range l {
		if !alone(s) || i > 0 && s.At < l[i-1].At+l[i-1].Len {
			return false
		}
	}
	return true
}

// has tells whether s has the number x.
func has(s api.Span, x int) bool {
	return alone(s) && s.At <= x && x <= s.At+s.Len-1
}

// hasOne tells whether one of the spans has the number x.
func hasOne(l []api.Span, x int) bool {
	return slices.ContainsFunc(l, func(s api.Span) bool { return has(s, x) })
}

// runs are the greatest spans of numbers from 0 to one less than end that are asked for.
func runs(end int, asked func(x int) bool) []api.Span {
	var l []api.Span
	for x := 0; x < end; x++ {
		if !asked(x) {
			continue
		}
		if x > 0 && asked(x-1) {
			l[len(l)-1].Len++
		} else {
			l = append(l, api.Span{At: x, Len: 1})
		}
	}
	return l
}

// without is what is left of the spans without the n numbers from at on, number by number.
func without(l []api.Span, at, n int) []api.Span {
	var left []api.Span
	for _, s := range l {
		left = append(left, runs(s.At+s.Len, func(x int) bool { return has(s, x) && (x < at || x-at >= n) })...)
	}
	return left
}

// gap is the least number from which size on, all below end, are in none of the spans: looked for from 0 on.
func gap(l []api.Span, size, end int) int {
	for x := 0; size >= 1 && x+size <= end; x++ {
		if len(runs(x+size, func(y int) bool { return y >= x && hasOne(l, y) })) == 0 {
			return x
		}
	}
	return -1
}

// laid are all lists of spans in order in the numbers from 0 to one less than wide.
func laid() [][]api.Span {
	lists := [][]api.Span{nil}
	for from := 0; from < len(lists); from++ {
		least := 0
		if l := lists[from]; len(l) > 0 {
			least = l[len(l)-1].At + l[len(l)-1].Len
		}
		for at := least; at < wide; at++ {
			for n := 1; at+n <= wide; n++ {
				lists = append(lists, append(slices.Clone(lists[from]), api.Span{At: at, Len: n}))
			}
		}
	}
	return lists
}

// few are short lists of all kinds, in order or not.
func few() [][]api.Span {
	var all []api.Span
	for at := -1; at <= 3; at++ {
		for n := -1; n <= 3; n++ {
			all = append(all, api.Span{At: at, Len: n})
		}
	}
	lists := [][]api.Span{nil}
	for _, a := range all {
		lists = append(lists, []api.Span{a})
		for _, b := range all {
			lists = append(lists, []api.Span{a, b})
			for _, c := range all {
				lists = append(lists, []api.Span{a, b, c})
			}
		}
	}
	return lists
}

// wrong are lists that are not in order, each for one reason.
func wrong() map[string][]api.Span {
	return map[string][]api.Span{
		"below 0":                    row(-1, 4),
		"below 0, up to 0":           row(-4, 4, 4, 4),
		"far below 0":                row(math.MinInt, 4),
		"the least int and greatest": row(math.MinInt, math.MaxInt),
		"Len 0":                      row(4, 0),
		"Len 0 behind one":           row(0, 4, 4, 0),
		"Len 0 ahead of one":         row(4, 0, 4, 4),
		"Len below 0":                row(4, -1),
		"Len below 0 behind one":     row(0, 4, 8, -4),
		"Len the least int":          row(4, math.MinInt),
		"the zero span":              row(0, 0),
		"one too many":               row(1, math.MaxInt),
		"one too many, far":          row(math.MaxInt, 1),
		"far too many":               row(math.MaxInt, math.MaxInt),
		"half of each, one too many": row(1<<62, 1<<62),
		"meeting by one":             row(0, 4, 3, 4),
		"meeting by one, the last":   row(0, 4, 4, 4, 7, 1),
		"the same twice":             row(4, 4, 4, 4),
		"one within":                 row(0, 8, 2, 2),
		"one around":                 row(2, 2, 0, 8),
		"falling":                    row(4, 4, 0, 4),
		"falling at last":            row(0, 1, 8, 1, 4, 1),
		"behind one that is too far": row(4, math.MaxInt, 8, 1),
		"wrong first":                row(-1, 1, 0, 4, 8, 4),
		"wrong last":                 row(0, 4, 8, 4, 20, 0),
	}
}

// greatest are lists in order that are as far, or as long, as they may be.
func greatest() map[string][]api.Span {
	return map[string][]api.Span{
		"as long as it may be":      row(0, math.MaxInt),
		"as far as it may be":       row(math.MaxInt-1, 1),
		"from 1 on":                 row(1, math.MaxInt-1),
		"half of each":              row(1<<62, 1<<62-1),
		"two halves":                row(0, 1<<62, 1<<62, 1<<62-1),
		"the first and the last":    row(0, 1, math.MaxInt-1, 1),
		"two that touch at the end": row(math.MaxInt-2, 1, math.MaxInt-1, 1),
	}
}

// guarded is a copy of the list with other spans behind it in one memory, and a call that tells whether all of it is as it was.
func guarded(l []api.Span) ([]api.Span, func() bool) {
	memory := append(slices.Clone(l), row(-9, -9, -8, -8, -7, -7, -6, -6)...)
	was := slices.Clone(memory)
	return memory[:len(l)], func() bool { return slices.Equal(memory, was) }
}

// same holds one answer against what it has to be.
func same[T comparable](t *testing.T, what string, got, want T) {
	t.Helper()
	if got != want {
		t.Errorf("%s: %v, want %v", what, got, want)
	}
}

// checkList asks for a list and holds it against what it has to be: twice, with what was answered overwritten, and with what was handed in looked after.
func checkList(t *testing.T, what string, l, want []api.Span, ok bool, ask func(l []api.Span) ([]api.Span, bool)) {
	t.Helper()
	list, kept := guarded(l)
	for range 2 {
		got, is := ask(list)
		if !slices.Equal(got, want) || is != ok {
			t.Fatalf("%s of %v: %v %v, want %v %v", what, l, got, is, want, ok)
		}
		if !kept() {
			t.Fatalf("%s of %v changed what was handed in", what, l)
		}
		got = got[:cap(got)]
		for i := range got {
			got[i] = api.Span{At: -5, Len: -5}
		}
		if !kept() {
			t.Fatalf("%s of %v: what was handed out is not one's own", what, l)
		}
	}
}

// checkAdd holds an Add against what it has to answer.
func checkAdd(t *testing.T, l []api.Span, s api.Span, want []api.Span, ok bool) {
	t.Helper()
	checkList(t, "Add", append(slices.Clone(l), s), want, ok, func(all []api.Span) ([]api.Span, bool) {
		return Add(all[:len(l)], all[len(l)])
	})
}

// checkDrop holds a Drop against what it has to answer.
func checkDrop(t *testing.T, l []api.Span, at int, want []api.Span, ok bool) {
	t.Helper()
	checkList(t, "Drop", l, want, ok, func(l []api.Span) ([]api.Span, bool) { return Drop(l, at) })
}

// checkMerge holds a Merge against what it has to answer.
func checkMerge(t *testing.T, l, want []api.Span, ok bool) {
	t.Helper()
	checkList(t, "Merge", l, want, ok, Merge)
}

// checkCut holds a Cut against what it has to answer.
func checkCut(t *testing.T, l []api.Span, at, n int, want []api.Span, ok bool) {
	t.Helper()
	checkList(t, "Cut", l, want, ok, func(l []api.Span) ([]api.Span, bool) { return Cut(l, at, n) })
}

// checkHoles holds Holes against what they have to be.
func checkHoles(t *testing.T, l []api.Span, end int, want []api.Span) {
	t.Helper()
	checkList(t, "Holes", l, want, true, func(l []api.Span) ([]api.Span, bool) { return Holes(l, end), true })
}

// checkNothing holds all calls of a list that is not in order against what they have to answer.
func checkNothing(t *testing.T, l []api.Span) {
	t.Helper()
	if Right(l) {
		t.Errorf("Right of %v", l)
	}
	for _, n := range []int{-1, 0, 1, 4, 100, math.MaxInt} {
		checkAdd(t, l, api.Span{At: n, Len: 1}, nil, false)
		checkDrop(t, l, n, nil, false)
		checkCut(t, l, n, 0, nil, false)
		checkCut(t, l, 0, n, nil, false)
		checkHoles(t, l, n, nil)
		if place, least := Find(l, n), Gap(l, 1, n); place != -1 || least != -1 {
			t.Errorf("Find and Gap of %v: %d %d", l, place, least)
		}
	}
	for _, s := range l {
		checkDrop(t, l, s.At, nil, false)
		if place := Find(l, s.At); place != -1 {
			t.Errorf("Find(%d) of %v: %d", s.At, l, place)
		}
	}
	checkMerge(t, l, nil, false)
	if total := Total(l); total != 0 {
		t.Errorf("Total of %v: %d", l, total)
	}
}

// Promise 8.1: lists in order, as far and as long as they may be; nil is one of them.
func TestRight(t *testing.T) {
	for what, l := range greatest() {
		same(t, what, Right(l), true)
	}
	same(t, "nil", Right(nil), true)
	same(t, "none", Right([]api.Span{}), true)
	same(t, "one", Right(row(4, 4)), true)
	same(t, "from 0 on", Right(row(0, 1)), true)
	same(t, "that touch", Right(row(0, 4, 4, 4)), true)
	same(t, "that do not touch", Right(row(0, 4, 5, 4)), true)
	same(t, "the chapter's", Right(row(0, 4, 8, 2)), true)
}

// Promise 8.1: lists that are not in order, each for one reason.
func TestRightWrong(t *testing.T) {
	for what, l := range wrong() {
		same(t, what, Right(l), false)
	}
}

// Promise 8.1: all short lists, in order or not.
func TestRightOfAllShort(t *testing.T) {
	for _, l := range few() {
		list, kept := guarded(l)
		if Right(list) != ordered(l) || !kept() {
			t.Fatalf("Right of %v: %v", l, !ordered(l))
		}
	}
	for _, w := range worlds() {
		for _, l := range laid() {
			if !Right(w.spans(l)) {
				t.Fatalf("%s: Right of %v: false", w.name, w.spans(l))
			}
		}
	}
}

// Promise 8.1: two spans, each way round.
func TestMeet(t *testing.T) {
	for _, c := range []struct {
		what string
		a, b api.Span
		want bool
	}{
		{"the same", api.Span{At: 4, Len: 4}, api.Span{At: 4, Len: 4}, true},
		{"the same one number", api.Span{At: 4, Len: 1}, api.Span{At: 4, Len: 1}, true},
		{"touching", api.Span{At: 0, Len: 4}, api.Span{At: 4, Len: 4}, false},
		{"touching, of one number each", api.Span{At: 4, Len: 1}, api.Span{At: 5, Len: 1}, false},
		{"meeting by one", api.Span{At: 0, Len: 5}, api.Span{At: 4, Len: 4}, true},
		{"apart by one", api.Span{At: 0, Len: 3}, api.Span{At: 4, Len: 4}, false},
		{"one within", api.Span{At: 0, Len: 8}, api.Span{At: 2, Len: 2}, true},
		{"one within, from its first on", api.Span{At: 0, Len: 8}, api.Span{At: 0, Len: 1}, true},
		{"one within, at its last", api.Span{At: 0, Len: 8}, api.Span{At: 7, Len: 1}, true},
		{"one just behind", api.Span{At: 0, Len: 8}, api.Span{At: 8, Len: 1}, false},
		{"all numbers and one", api.Span{At: 0, Len: math.MaxInt}, api.Span{At: 5, Len: 1}, true},
		{"all numbers and the last one", api.Span{At: 0, Len: math.MaxInt}, api.Span{At: math.MaxInt - 1, Len: 1}, true},
		{"all but the last, and it", api.Span{At: 0, Len: math.MaxInt - 1}, api.Span{At: math.MaxInt - 1, Len: 1}, false},
		{"all numbers twice", api.Span{At: 0, Len: math.MaxInt}, api.Span{At: 0, Len: math.MaxInt}, true},
		{"one of no numbers within", api.Span{At: 0, Len: 8}, api.Span{At: 4, Len: 0}, false},
		{"one of less than none", api.Span{At: 0, Len: 8}, api.Span{At: 4, Len: -1}, false},
		{"one of less than none, from behind", api.Span{At: 0, Len: 8}, api.Span{At: 10, Len: -4}, false},
		{"one from below 0 on", api.Span{At: 0, Len: 8}, api.Span{At: -4, Len: 8}, false},
		{"one too many", api.Span{At: 0, Len: 8}, api.Span{At: 1, Len: math.MaxInt}, false},
		{"one too far", api.Span{At: 0, Len: math.MaxInt}, api.Span{At: math.MaxInt, Len: 1}, false},
		{"far too many", api.Span{At: 0, Len: math.MaxInt}, api.Span{At: math.MaxInt, Len: math.MaxInt}, false},
		{"the least ints", api.Span{At: 0, Len: 8}, api.Span{At: math.MinInt, Len: math.MinInt}, false},
		{"from the least int on", api.Span{At: 0, Len: 8}, api.Span{At: math.MinInt, Len: math.MaxInt}, false},
		{"zero spans", api.Span{}, api.Span{}, false},
		{"the same wrong one", api.Span{At: -1, Len: 4}, api.Span{At: -1, Len: 4}, false},
	} {
		same(t, c.what, Meet(c.a, c.b), c.want)
		same(t, c.what+", the other way round", Meet(c.b, c.a), c.want)
	}
}

// Promise 8.1: all spans of few numbers, two by two, number by number; moved and stretched as well.
func TestMeetOfAllShort(t *testing.T) {
	var all []api.Span
	for at := -2; at <= wide; at++ {
		for n := -2; n <= wide+2; n++ {
			all = append(all, api.Span{At: at, Len: n})
		}
	}
	for _, a := range all {
		for _, b := range all {
			want := len(runs(3*wide, func(x int) bool { return has(a, x) && has(b, x) })) > 0
			if Meet(a, b) != want {
				t.Fatalf("Meet of %v and %v: %v", a, b, !want)
			}
			for _, w := range worlds() {
				if a.At < 0 || b.At < 0 || a.At+a.Len > wide || b.At+b.Len > wide {
					continue
				}
				if l := w.spans([]api.Span{a, b}); Meet(l[0], l[1]) != want {
					t.Fatalf("%s: Meet of %v: %v", w.name, l, !want)
				}
			}
		}
	}
}

// Promise 8.2: the chapter's example, and each place where a span may come.
func TestAdd(t *testing.T) {
	l := row(4, 4, 10, 2, 16, 4)
	for _, c := range []struct {
		what string
		l    []api.Span
		s    api.Span
		want []api.Span
	}{
		{"the example", row(0, 4, 8, 2), api.Span{At: 4, Len: 4}, row(0, 4, 4, 4, 8, 2)},
		{"to none", nil, api.Span{At: 4, Len: 4}, row(4, 4)},
		{"to none, at 0", []api.Span{}, api.Span{At: 0, Len: 1}, row(0, 1)},
		{"ahead of all", l, api.Span{At: 1, Len: 2}, row(1, 2, 4, 4, 10, 2, 16, 4)},
		{"ahead of all, from 0 up to them", l, api.Span{At: 0, Len: 4}, row(0, 4, 4, 4, 10, 2, 16, 4)},
		{"behind all", l, api.Span{At: 30, Len: 5}, row(4, 4, 10, 2, 16, 4, 30, 5)},
		{"just behind all", l, api.Span{At: 20, Len: 5}, row(4, 4, 10, 2, 16, 4, 20, 5)},
		{"behind all, to the end", l, api.Span{At: 20, Len: math.MaxInt - 20}, row(4, 4, 10, 2, 16, 4, 20, math.MaxInt-20)},
		{"in the first gap, filling it", l, api.Span{At: 8, Len: 2}, row(4, 4, 8, 2, 10, 2, 16, 4)},
		{"in the first gap, at its begin", l, api.Span{At: 8, Len: 1}, row(4, 4, 8, 1, 10, 2, 16, 4)},
		{"in the first gap, at its end", l, api.Span{At: 9, Len: 1}, row(4, 4, 9, 1, 10, 2, 16, 4)},
		{"in the last gap, touching none", l, api.Span{At: 13, Len: 2}, row(4, 4, 10, 2, 13, 2, 16, 4)},
		{"in the last gap, filling it", l, api.Span{At: 12, Len: 4}, row(4, 4, 10, 2, 12, 4, 16, 4)},
		{"ahead of the last number", row(math.MaxInt-1, 1), api.Span{At: 0, Len: math.MaxInt - 1}, row(0, math.MaxInt-1, math.MaxInt-1, 1)},
		{"the last number", row(0, math.MaxInt-1), api.Span{At: math.MaxInt - 1, Len: 1}, row(0, math.MaxInt-1, math.MaxInt-1, 1)},
	} {
		t.Run(c.what, func(t *testing.T) { checkAdd(t, c.l, c.s, c.want, true) })
	}
}

// Promise 8.2: spans that meet one, or are not in order by themselves, are not added.
func TestAddWrong(t *testing.T) {
	l := row(4, 4, 10, 2, 16, 4)
	for what, s := range map[string]api.Span{
		"the first one's first number":      {At: 1, Len: 4},
		"the first one's last number":       {At: 7, Len: 2},
		"one number of both beside a gap":   {At: 7, Len: 4},
		"the next one's first number":       {At: 9, Len: 2},
		"the last one's first number":       {At: 12, Len: 5},
		"the last one's last number":        {At: 19, Len: 4},
		"the first one itself":              {At: 4, Len: 4},
		"the last one itself":               {At: 16, Len: 4},
		"within one":                        {At: 17, Len: 1},
		"around one":                        {At: 9, Len: 4},
		"around all":                        {At: 0, Len: 30},
		"all numbers":                       {At: 0, Len: math.MaxInt},
		"of no numbers":                     {At: 8, Len: 0},
		"of no numbers, behind all":         {At: 30, Len: 0},
		"of less than none":                 {At: 8, Len: -1},
		"of less than none, behind all":     {At: 30, Len: math.MinInt},
		"from below 0 on":                   {At: -1, Len: 2},
		"from far below 0 on":               {At: math.MinInt, Len: 4},
		"from the least int on, as long":    {At: math.MinInt, Len: math.MaxInt},
		"behind all, one too many":          {At: 20, Len: math.MaxInt - 19},
		"behind all, far too many":          {At: 30, Len: math.MaxInt},
		"the greatest int":                  {At: math.MaxInt, Len: 1},
		"the greatest int, as often":        {At: math.MaxInt, Len: math.MaxInt},
		"the zero span":                     {},
		"of no numbers at the greatest int": {At: math.MaxInt, Len: 0},
	} {
		t.Run(what, func(t *testing.T) {
			checkAdd(t, l, s, nil, false)
			if !alone(s) {
				checkAdd(t, nil, s, nil, false)
			}
		})
	}
	for what, l := range wrong() {
		t.Run(what, func(t *testing.T) { checkAdd(t, l, api.Span{At: 100, Len: 4}, nil, false) })
	}
}

// Promises 8.2 and 8.5: every span to every list of the small world, moved and stretched as well; what was added is found, and Drop takes it away.
func TestAddToAllShort(t *testing.T) {
	for _, w := range worlds() {
		for _, l := range laid() {
			for at := range wide {
				for n := 1; at+n <= wide; n++ {
					s := api.Span{At: at, Len: n}
					all := append(slices.Clone(l), s)
					slices.SortFunc(all, func(a, b api.Span) int { return a.At - b.At })
					if !ordered(all) {
						checkAdd(t, w.spans(l), w.spans([]api.Span{s})[0], nil, false)
						continue
					}
					checkAdd(t, w.spans(l), w.spans([]api.Span{s})[0], w.spans(all), true)
					checkAdded(t, w.spans(l), w.spans([]api.Span{s})[0])
				}
			}
		}
	}
}

// checkAdded adds s and holds what follows of it.
func checkAdded(t *testing.T, l []api.Span, s api.Span) {
	t.Helper()
	all, ok := Add(l, s)
	if !ok || !Right(all) || Total(all) != Total(l)+s.Len {
		t.Fatalf("Add of %v to %v: %v", s, l, all)
	}
	for _, x := range []int{s.At, s.At + s.Len - 1} {
		if place := Find(all, x); place < 0 || all[place] != s {
			t.Fatalf("Find(%d) of %v: %d", x, all, place)
		}
	}
	if _, again := Add(all, s); again {
		t.Fatalf("Add of %v to %v again", s, all)
	}
	checkDrop(t, all, s.At, l, true)
}

// Promise 8.3: each one that may be dropped, and numbers at which none begins.
func TestDrop(t *testing.T) {
	l := row(0, 4, 4, 4, 10, 2)
	for _, c := range []struct {
		what string
		l    []api.Span
		at   int
		want []api.Span
		ok   bool
	}{
		{"the first", l, 0, row(4, 4, 10, 2), true},
		{"one between", l, 4, row(0, 4, 10, 2), true},
		{"the last", l, 10, row(0, 4, 4, 4), true},
		{"the only one", row(4, 4), 4, nil, true},
		{"the only one, all numbers", row(0, math.MaxInt), 0, nil, true},
		{"the last number", row(0, 1, math.MaxInt-1, 1), math.MaxInt - 1, row(0, 1), true},
		{"one that begins one number ahead", l, 1, nil, false},
		{"a span's last number", l, 7, nil, false},
		{"a number in a gap", l, 8, nil, false},
		{"one number ahead of one", l, 9, nil, false},
		{"the last one's last number", l, 11, nil, false},
		{"just behind all", l, 12, nil, false},
		{"below 0", l, -1, nil, false},
		{"the least int", l, math.MinInt, nil, false},
		{"the greatest int", l, math.MaxInt, nil, false},
		{"the greatest int of all numbers", row(0, math.MaxInt), math.MaxInt, nil, false},
		{"the last of all numbers", row(0, math.MaxInt), math.MaxInt - 1, nil, false},
		{"of none", []api.Span{}, 0, nil, false},
		{"of nil", nil, 0, nil, false},
		{"of nil, below 0", nil, -1, nil, false},
	} {
		t.Run(c.what, func(t *testing.T) { checkDrop(t, c.l, c.at, c.want, c.ok) })
	}
	for what, l := range wrong() {
		t.Run(what, func(t *testing.T) { checkDrop(t, l, l[0].At, nil, false) })
	}
}

// Promise 8.3: every number of every list of the small world, moved and stretched as well.
func TestDropOfAllShort(t *testing.T) {
	for _, w := range worlds() {
		for _, l := range laid() {
			for at := range wide + 1 {
				var want []api.Span
				place := slices.IndexFunc(l, func(s api.Span) bool { return s.At == at })
				for i, s := range l {
					if place >= 0 && i != place {
						want = append(want, s)
					}
				}
				checkDrop(t, w.spans(l), w.at(at), w.spans(want), place >= 0)
				if w.stretch > 1 {
					checkDrop(t, w.spans(l), w.at(at)-1, nil, false)
				}
			}
		}
	}
}

// Promise 8.4: the first and last numbers of spans, those beside, and what no span can have.
func TestFind(t *testing.T) {
	l := row(4, 4, 8, 1, 10, 2)
	for x, want := range map[int]int{
		4: 0, 5: 0, 7: 0, 8: 1, 10: 2, 11: 2,
		0: -1, 3: -1, 9: -1, 12: -1, 13: -1, -1: -1, -4: -1, math.MinInt: -1, math.MaxInt: -1, math.MaxInt - 1: -1,
	} {
		if got := Find(l, x); got != want {
			t.Errorf("Find(%d): %d, want %d", x, got, want)
		}
	}
	all := row(0, math.MaxInt)
	same(t, "the first of all", Find(all, 0), 0)
	same(t, "the last of all", Find(all, math.MaxInt-1), 0)
	same(t, "behind all", Find(all, math.MaxInt), -1)
	same(t, "below all", Find(all, -1), -1)
	same(t, "of nil", Find(nil, 0), -1)
	same(t, "of none", Find([]api.Span{}, 0), -1)
	same(t, "of nil, the greatest int", Find(nil, math.MaxInt), -1)
	for what, l := range wrong() {
		for _, s := range l {
			same(t, what, Find(l, s.At), -1)
			same(t, what, Find(l, 0), -1)
		}
	}
}

// Promise 8.4: the numbers that spans have, as far and as long as they may be.
func TestTotal(t *testing.T) {
	same(t, "of nil", Total(nil), 0)
	same(t, "of none", Total([]api.Span{}), 0)
	same(t, "of one", Total(row(7, 4)), 4)
	same(t, "of the chapter's", Total(row(0, 4, 4, 4, 8, 2)), 10)
	same(t, "of all numbers", Total(row(0, math.MaxInt)), math.MaxInt)
	same(t, "of two halves", Total(greatest()["two halves"]), math.MaxInt)
	same(t, "of the first and the last", Total(greatest()["the first and the last"]), 2)
	var many []api.Span
	for i := range 10000 {
		many = append(many, api.Span{At: 1000 * i, Len: i%1000 + 1})
	}
	same(t, "of many", Total(many), 10*(1000*1001/2))
	for what, l := range wrong() {
		same(t, what, Total(l), 0)
	}
}

// Promise 8.4: gaps ahead of spans, between, behind, and where there are none.
func TestGap(t *testing.T) {
	l := row(3, 4, 8, 2, 12, 4) // 3 ahead, then 1, then 2
	for _, c := range []struct {
		what            string
		l               []api.Span
		size, end, want int
	}{
		{"the example", row(0, 4, 4, 4, 8, 2), 3, 20, 10},
		{"ahead of the first", l, 1, 20, 0},
		{"ahead of the first, just as great", l, 3, 20, 0},
		{"ahead of the first, one too small: behind the last", l, 4, 20, 16},
		{"behind the last, one too small", l, 5, 20, -1},
		{"between, as great as asked", row(0, 4, 5, 2, 9, 2), 2, 11, 7},
		{"between, the first that is great enough", row(0, 4, 6, 2, 10, 2), 2, 20, 4},
		{"just one number", row(0, 4, 5, 2), 1, 7, 4},
		{"an end in a span", l, 4, 14, -1},
		{"an end in a span, a gap ahead", l, 3, 14, 0},
		{"an end in the first span", l, 3, 4, 0},
		{"an end where a span begins", l, 3, 3, 0},
		{"an end one ahead of it", l, 3, 2, -1},
		{"an end where a span ends", row(0, 4), 1, 4, -1},
		{"an end one behind it", row(0, 4), 1, 5, 4},
		{"an end two behind it", row(0, 4), 2, 5, -1},
		{"an end in a gap", row(0, 4, 8, 4), 2, 6, 4},
		{"an end in a gap, one too small", row(0, 4, 8, 4), 3, 6, -1},
		{"end 1", nil, 1, 1, 0},
		{"end 1, two asked", nil, 2, 1, -1},
		{"end 0", nil, 1, 0, -1},
		{"end below 0", nil, 1, -1, -1},
		{"end the least int", nil, 1, math.MinInt, -1},
		{"size 0", l, 0, 20, -1},
		{"size below 0", l, -1, 20, -1},
		{"size the least int", l, math.MinInt, 20, -1},
		{"size and end 0", nil, 0, 0, -1},
		{"size 0 of none", nil, 0, 20, -1},
		{"size and end below 0", nil, -2, -1, -1},
		{"all of none", nil, 20, 20, 0},
		{"all of none, one too many", nil, 21, 20, -1},
		{"all numbers of none", nil, math.MaxInt, math.MaxInt, 0},
		{"all numbers of none, one too many", []api.Span{}, math.MaxInt, math.MaxInt - 1, -1},
		{"all that is behind", l, math.MaxInt - 16, math.MaxInt, 16},
		{"all that is behind, one too many", l, math.MaxInt - 15, math.MaxInt, -1},
		{"the greatest size", l, math.MaxInt, math.MaxInt, -1},
		{"all numbers are taken", row(0, math.MaxInt), 1, math.MaxInt, -1},
		{"all but the first", row(1, math.MaxInt-1), 1, math.MaxInt, 0},
		{"all but the last", row(0, math.MaxInt-1), 1, math.MaxInt, math.MaxInt - 1},
		{"between the first and the last", row(0, 1, math.MaxInt-1, 1), math.MaxInt - 2, math.MaxInt, 1},
	} {
		same(t, c.what, Gap(c.l, c.size, c.end), c.want)
	}
	for what, l := range wrong() {
		same(t, what, Gap(l, 1, math.MaxInt), -1)
		same(t, what, Gap(l, 0, 0), -1)
	}
}

// Promise 8.4: every list of the small world, with what may be asked of it, and a little more; stretched as well.
func TestAskAllShort(t *testing.T) {
	for _, l := range laid() {
		list, kept := guarded(l)
		total := 0
		for x := -2; x <= wide+2; x++ {
			place := slices.IndexFunc(l, func(s api.Span) bool { return has(s, x) })
			if place >= 0 {
				total++
			}
			if got := Find(list, x); got != place {
				t.Fatalf("Find(%d) of %v: %d, want %d", x, l, got, place)
			}
			for end := -2; end <= wide+2; end++ {
				want := gap(l, x, end)
				if got := Gap(list, x, end); got != want {
					t.Fatalf("Gap(%d, %d) of %v: %d, want %d", x, end, l, got, want)
				}
			}
		}
		if got := Total(list); got != total || !kept() {
			t.Fatalf("Total of %v: %d, want %d", l, got, total)
		}
		checkAskFar(t, l, total)
	}
}

// checkAskFar asks of a list of the small world, that has so many numbers, in those that are moved and stretched.
func checkAskFar(t *testing.T, l []api.Span, total int) {
	t.Helper()
	for _, w := range worlds() {
		list := w.spans(l)
		if got := Total(list); got != w.long(total) {
			t.Fatalf("Total of %v: %d, want %d", list, got, w.long(total))
		}
		for x := range wide {
			want := slices.IndexFunc(l, func(s api.Span) bool { return has(s, x) })
			if first, last := Find(list, w.at(x)), Find(list, w.at(x)+w.stretch-1); first != want || last != want {
				t.Fatalf("Find of the %dth of %v: %d %d, want %d", x, list, first, last, want)
			}
		}
	}
	w := worlds()[2]
	for size := 1; size <= wide; size++ {
		for end := range wide + 1 {
			want := gap(l, size, end)
			if want > 0 {
				want *= w.stretch
			}
			if got := Gap(w.spans(l), w.long(size), w.at(end)); got != want {
				t.Fatalf("Gap(%d, %d) of %v: %d, want %d", w.long(size), w.at(end), w.spans(l), got, want)
			}
		}
	}
}

// Promise 8.6: spans of which some touch, in rows and alone.
func TestMerge(t *testing.T) {
	for _, c := range []struct {
		what    string
		l, want []api.Span
	}{
		{"of nil", nil, nil},
		{"of none", []api.Span{}, nil},
		{"of one", row(4, 4), row(4, 4)},
		{"of two that touch", row(0, 4, 4, 2), row(0, 6)},
		{"of two that do not", row(0, 4, 5, 2), row(0, 4, 5, 2)},
		{"of three in a row", row(1, 3, 4, 4, 8, 2), row(1, 9)},
		{"of a row first", row(0, 1, 1, 1, 2, 1, 4, 1), row(0, 3, 4, 1)},
		{"of a row last", row(0, 1, 2, 1, 3, 1, 4, 1), row(0, 1, 2, 3)},
		{"of two rows", row(0, 1, 1, 2, 4, 1, 5, 2), row(0, 3, 4, 3)},
		{"of two halves", row(0, 1<<62, 1<<62, 1<<62-1), row(0, math.MaxInt)},
		{"of the last two numbers", row(math.MaxInt-2, 1, math.MaxInt-1, 1), row(math.MaxInt-2, 2)},
		{"of the first and the last number", row(0, 1, math.MaxInt-1, 1), row(0, 1, math.MaxInt-1, 1)},
	} {
		t.Run(c.what, func(t *testing.T) { checkMerge(t, c.l, c.want, true) })
	}
	for what, l := range wrong() {
		t.Run(what, func(t *testing.T) { checkMerge(t, l, nil, false) })
	}
}

// Promise 8.6: what is cut out within spans, over them, beside them, and to the end.
func TestCut(t *testing.T) {
	l := row(2, 4, 6, 2, 10, 5)
	for _, c := range []struct {
		what  string
		at, n int
		want  []api.Span
	}{
		{"within one", 11, 2, row(2, 4, 6, 2, 10, 1, 13, 2)},
		{"within one, its first", 10, 2, row(2, 4, 6, 2, 12, 3)},
		{"within one, its last", 13, 2, row(2, 4, 6, 2, 10, 3)},
		{"within the first", 3, 1, row(2, 1, 4, 2, 6, 2, 10, 5)},
		{"just one", 6, 2, row(2, 4, 10, 5)},
		{"just the first", 2, 4, row(6, 2, 10, 5)},
		{"just the last", 10, 5, row(2, 4, 6, 2)},
		{"over two that touch", 5, 2, row(2, 3, 7, 1, 10, 5)},
		{"over several", 5, 6, row(2, 3, 11, 4)},
		{"over several, whole ones", 2, 6, row(10, 5)},
		{"over the whole", 2, 13, nil},
		{"over more than the whole", 0, 20, nil},
		{"over all numbers", 0, math.MaxInt, nil},
		{"of nothing", 0, 0, l},
		{"of nothing, within a span", 12, 0, l},
		{"of nothing, where one begins", 10, 0, l},
		{"of nothing, where one ends", 15, 0, l},
		{"of nothing, far behind", math.MaxInt, 0, l},
		{"from a number in no span", 8, 4, row(2, 4, 6, 2, 12, 3)},
		{"from ahead of all", 0, 3, row(3, 3, 6, 2, 10, 5)},
		{"of no span's numbers", 8, 2, l},
		{"of no span's numbers, ahead", 0, 2, l},
		{"of no span's numbers, behind", 15, 20, l},
		{"up to where one begins", 7, 3, row(2, 4, 6, 1, 10, 5)},
		{"to the very end", 4, 11, row(2, 2)},
		{"to one ahead of the end", 4, 10, row(2, 2, 14, 1)},
		{"beyond the end", 4, 100, row(2, 2)},
		{"to the greatest int", 4, math.MaxInt - 4, row(2, 2)},
		{"one beyond the greatest int", 4, math.MaxInt - 3, row(2, 2)},
		{"far beyond the greatest int", 12, math.MaxInt, row(2, 4, 6, 2, 10, 2)},
		{"from the greatest int on", math.MaxInt, 1, l},
		{"from the greatest int on, as many", math.MaxInt, math.MaxInt, l},
	} {
		t.Run(c.what, func(t *testing.T) { checkCut(t, l, c.at, c.n, c.want, true) })
	}
	for what, c := range map[string][2]int{
		"from below 0 on":         {-1, 4},
		"from below 0 on, none":   {-1, 0},
		"of less than none":       {4, -1},
		"both below 0":            {-1, -1},
		"from the least int on":   {math.MinInt, math.MaxInt},
		"of as many as the least": {4, math.MinInt},
	} {
		t.Run(what, func(t *testing.T) {
			checkCut(t, l, c[0], c[1], nil, false)
			checkCut(t, nil, c[0], c[1], nil, false)
		})
	}
}

// Promise 8.6: what is cut out of none, of one that is as long or as far as it may be, and of lists that are not in order.
func TestCutFar(t *testing.T) {
	all, last := row(0, math.MaxInt), row(math.MaxInt-1, 1)
	checkCut(t, nil, 0, 0, nil, true)
	checkCut(t, []api.Span{}, 4, math.MaxInt, nil, true)
	checkCut(t, all, 0, 1, row(1, math.MaxInt-1), true)
	checkCut(t, all, math.MaxInt-1, 1, row(0, math.MaxInt-1), true)
	checkCut(t, all, math.MaxInt-1, math.MaxInt, row(0, math.MaxInt-1), true)
	checkCut(t, all, math.MaxInt-2, 1, row(0, math.MaxInt-2, math.MaxInt-1, 1), true)
	checkCut(t, all, 1, math.MaxInt-2, row(0, 1, math.MaxInt-1, 1), true)
	checkCut(t, all, 1, math.MaxInt-1, row(0, 1), true)
	checkCut(t, all, 1, math.MaxInt, row(0, 1), true)
	checkCut(t, all, math.MaxInt, math.MaxInt, all, true)
	checkCut(t, last, math.MaxInt-1, 1, nil, true)
	checkCut(t, last, math.MaxInt-1, 2, nil, true)
	checkCut(t, last, 0, math.MaxInt-1, last, true)
	checkCut(t, last, 0, math.MaxInt, nil, true)
	for what, l := range wrong() {
		t.Run(what, func(t *testing.T) {
			checkCut(t, l, 0, 0, nil, false)
			checkCut(t, l, 0, math.MaxInt, nil, false)
			checkCut(t, l, -1, -1, nil, false)
		})
	}
}

// Promise 8.6: holes ahead of spans, between, behind, with each kind of end.
func TestHoles(t *testing.T) {
	l := row(3, 4, 7, 1, 10, 2)
	for _, c := range []struct {
		what string
		l    []api.Span
		end  int
		want []api.Span
	}{
		{"ahead, between and behind", l, 20, row(0, 3, 8, 2, 12, 8)},
		{"up to the last one's end", l, 12, row(0, 3, 8, 2)},
		{"one behind it", l, 13, row(0, 3, 8, 2, 12, 1)},
		{"an end within a span", l, 11, row(0, 3, 8, 2)},
		{"an end where one begins", l, 10, row(0, 3, 8, 2)},
		{"an end in a hole", l, 9, row(0, 3, 8, 1)},
		{"an end where two touch", l, 7, row(0, 3)},
		{"an end within the first", l, 4, row(0, 3)},
		{"an end ahead of the first", l, 2, row(0, 2)},
		{"end 1", l, 1, row(0, 1)},
		{"end 0", l, 0, nil},
		{"end below 0", l, -1, nil},
		{"end the least int", l, math.MinInt, nil},
		{"end the greatest int", l, math.MaxInt, row(0, 3, 8, 2, 12, math.MaxInt-12)},
		{"of nil", nil, 20, row(0, 20)},
		{"of none, end 1", []api.Span{}, 1, row(0, 1)},
		{"of nil, end 0", nil, 0, nil},
		{"of nil, end below 0", nil, -1, nil},
		{"of nil, the greatest int", nil, math.MaxInt, row(0, math.MaxInt)},
		{"end 1 in a span", row(0, 4), 1, nil},
		{"of the first number", row(0, 1), 1, nil},
		{"of all numbers", row(0, math.MaxInt), math.MaxInt, nil},
		{"of all but the first", row(1, math.MaxInt-1), math.MaxInt, row(0, 1)},
		{"of all but the last", row(0, math.MaxInt-1), math.MaxInt, row(math.MaxInt-1, 1)},
		{"of the first and the last", row(0, 1, math.MaxInt-1, 1), math.MaxInt, row(1, math.MaxInt-2)},
		{"of the first and the last, an end between", row(0, 1, math.MaxInt-1, 1), math.MaxInt - 1, row(1, math.MaxInt-2)},
	} {
		t.Run(c.what, func(t *testing.T) { checkHoles(t, c.l, c.end, c.want) })
	}
	for what, l := range wrong() {
		t.Run(what, func(t *testing.T) {
			checkHoles(t, l, math.MaxInt, nil)
			checkHoles(t, l, 1, nil)
			checkHoles(t, l, -1, nil)
		})
	}
}

// Promise 8.6: every list of the small world, merged, cut at every number, and its holes, number by number; moved and stretched as well.
func TestChangeAllShort(t *testing.T) {
	for _, w := range worlds() {
		for _, l := range laid() {
			merged := runs(wide, func(x int) bool { return hasOne(l, x) })
			checkMerge(t, w.spans(l), w.spans(merged), true)
			for at := range wide + 1 {
				for n := range wide + 3 {
					left := without(l, at, n)
					checkCut(t, w.spans(l), w.at(at), w.long(n), w.spans(left), true)
				}
				holes := runs(at, func(x int) bool { return !hasOne(l, x) })
				checkHoles(t, w.spans(l), w.at(at), w.holes(holes))
			}
			checkTogether(t, w.spans(l), w.at(wide))
		}
	}
}

// holes are those of the small world as this one has them: with all numbers ahead of it.
func (w world) holes(l []api.Span) []api.Span {
	list := w.spans(l)
	if w.moved == 0 {
		return list
	}
	if len(l) > 0 && l[0].At == 0 {
		list[0] = api.Span{At: 0, Len: w.moved + l[0].Len}
		return list
	}
	return append([]api.Span{{At: 0, Len: w.moved}}, list...)
}

// checkTogether holds what follows: spans and the holes between them, merged, are one, and each hole can be added.
func checkTogether(t *testing.T, l []api.Span, end int) {
	t.Helper()
	all := l
	for _, hole := range Holes(l, end) {
		if !Right(all) || Gap(all, 1, end) != hole.At || Gap(all, hole.Len, end) < 0 {
			t.Fatalf("Gap of %v: %d, the hole is %v", all, Gap(all, 1, end), hole)
		}
		more, ok := Add(all, hole)
		if !ok {
			t.Fatalf("Add of the hole %v to %v", hole, all)
		}
		all = more
	}
	if one, ok := Merge(all); !ok || len(one) != 1 || one[0] != (api.Span{At: 0, Len: end}) {
		t.Fatalf("%v and its holes, merged: %v", l, one)
	}
}

// Promises 8.2 to 8.4 and 8.6: of all short lists that are not in order nothing is told.
func TestNothingOfWrong(t *testing.T) {
	for what, l := range wrong() {
		t.Run(what, func(t *testing.T) { checkNothing(t, l) })
	}
	for _, l := range few() {
		if !ordered(l) {
			checkNothing(t, l)
		}
	}
}

// next is a number that follows on the last one as if by chance.
func next(n uint64) uint64 {
	return n*6364136223846793005 + 1442695040888963407
}

// Promise 8.5: long rows of calls that look chosen by chance, each built on what the one ahead answered, against plain numbers.
func TestLongRow(t *testing.T) {
	const end = 300
	var l []api.Span
	seed := uint64(8)
	take := func(n int) int {
		seed = next(seed)
		return int(seed>>33) % n
	}
	for step := range 20000 {
		at, n := take(end), take(20)
		was := slices.Clone(l)
		switch take(8) {
		case 0:
			l, _ = Cut(l, at, n)
			if want := without(was, at, n); !slices.Equal(l, want) {
				t.Fatalf("step %d: Cut(%d, %d) of %v: %v", step, at, n, was, l)
			}
		case 1:
			if left, ok := Drop(l, at); ok {
				l = left
			}
			if want := slices.DeleteFunc(slices.Clone(was), func(s api.Span) bool { return s.At == at }); !slices.Equal(l, want) {
				t.Fatalf("step %d: Drop(%d) of %v: %v", step, at, was, l)
			}
		case 2:
			if take(40) == 0 {
				l, _ = Merge(l)
			}
			if len(runs(end, func(x int) bool { return hasOne(l, x) != hasOne(was, x) })) > 0 {
				t.Fatalf("step %d: Merge of %v: %v", step, was, l)
			}
		default:
			s := api.Span{At: at, Len: min(n/4+1, end-at)}
			more, ok := Add(l, s)
			free := !slices.ContainsFunc(l, func(o api.Span) bool { return has(o, s.At) || has(s, o.At) })
			if ok != free {
				t.Fatalf("step %d: Add(%v) to %v: %v", step, s, l, ok)
			}
			if ok {
				checkAdded(t, l, s)
				l = more
			}
		}
		if !Right(l) || Gap(l, n, end) != gap(l, n, end) {
			t.Fatalf("step %d: Gap(%d) of %v: %d", step, n, l, Gap(l, n, end))
		}
	}
}

// Promise 8.5: many spans, added from behind and from ahead, found, and dropped one by one.
func TestMany(t *testing.T) {
	const many = 1000
	var l []api.Span
	for i := range many {
		place := many + i/2
		if i%2 == 1 {
			place = many - 1 - i/2
		}
		more, ok := Add(l, api.Span{At: 8 * place, Len: 5})
		if !ok || len(more) != i+1 {
			t.Fatalf("Add of the place %d: %d", place, len(more))
		}
		l = more
	}
	for i, s := range l {
		if Find(l, s.At) != i || Find(l, s.At+4) != i || Find(l, s.At+5) != -1 {
			t.Fatalf("Find of %v: %d", s, Find(l, s.At))
		}
	}
	for i := range many {
		at := l[(i*7)%len(l)].At
		left, ok := Drop(l, at)
		if !ok || len(left) != many-1-i || Find(left, at) != -1 {
			t.Fatalf("Drop of %d: %d", at, len(left))
		}
		l = left
	}
}

// Promises 8.2, 8.3 and 8.6: lists that are told of one list share nothing with each other.
func TestOnesOwn(t *testing.T) {
	l := append(make([]api.Span, 0, 64), row(0, 4, 8, 2, 20, 6)...)
	was := slices.Clone(l)
	first := answers(t, l)
	for _, list := range first {
		list = list[:cap(list)]
		for i := range list {
			list[i] = api.Span{At: -5, Len: -5}
		}
	}
	if !slices.Equal(l, was) {
		t.Errorf("what was handed in is %v", l)
	}
	for i, list := range answers(t, l) {
		if !ordered(list) {
			t.Errorf("the answer %d is %v", i, list)
		}
	}
}

// answers are lists that the calls tell of l; each is asked twice, and the first ones are overwritten.
func answers(t *testing.T, l []api.Span) [][]api.Span {
	t.Helper()
	var lists [][]api.Span
	for range 2 {
		added, _ := Add(l, api.Span{At: 30, Len: 1})
		between, _ := Add(l, api.Span{At: 4, Len: 4})
		last, _ := Drop(l, 20)
		head, _ := Drop(l, 0)
		merged, _ := Merge(l)
		nothing, _ := Cut(l, 9, 0)
		behind, _ := Cut(l, 40, 2)
		tail, _ := Cut(l, 20, 100)
		part, _ := Cut(l, 21, 2)
		lists = append(lists, added, between, last, head, merged, nothing, behind, tail, part, Holes(l, 30))
	}
	half := len(lists) / 2
	was := make([][]api.Span, half)
	for i := range half {
		was[i] = slices.Clone(lists[i])
		for j := range lists[i] {
			lists[i][j] = api.Span{At: -5, Len: -5}
		}
	}
	for i := range half {
		if !slices.Equal(lists[half+i], was[i]) {
			t.Errorf("the answer %d shares with the one ahead: %v, want %v", i, lists[half+i], was[i])
		}
	}
	return lists[half:]
}
