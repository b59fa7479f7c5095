package mark

import (
	"encoding/binary"
	"fmt"
	"hash/fnv"
	"math"
	"slices"
	"strings"
	"sync"
	"testing"
)

// ofNone is the mark of no numbers, told here by its number: the package's own could be wrong.
const ofNone = 5472609002491880229

// toZero is the number whose 8 bytes bring a mark to 0 before anything is left out of it.
const toZero = 3893510596804045781

func same[T comparable](t *testing.T, what string, got, want T) {
	t.Helper()
	if got != want {
		t.Errorf("%s: %v, want %v", what, got, want)
	}
}

// short is a list as a text, of which the middle is left out if it is long.
func short(l []int) string {
	if len(l) > 8 {
		return fmt.Sprintf("%v .. %d numbers .. %v", l[:4], len(l), l[len(l)-4:])
	}
	return fmt.Sprint(l)
}

// shortText is a text as its bytes' numbers to the base 16, of which the middle is left out if it is long.
func shortText(s string) string {
	if len(s) > 40 {
		return fmt.Sprintf("[% x .. %d bytes .. % x]", s[:16], len(s), s[len(s)-16:])
	}
	return fmt.Sprintf("[% x]", s)
}

// whole is what a mark of the numbers is, before anything is left out of it: the library sums rows of bytes just so.
func whole(l []int) uint64 {
	sum := fnv.New64a()
	var row [8]byte
	for _, n := range l {
		binary.LittleEndian.PutUint64(row[:], uint64(n))
		sum.Write(row[:])
	}
	return sum.Sum64()
}

// wantMark is the mark of the numbers.
func wantMark(l []int) int {
	return int(whole(l) & math.MaxInt64)
}

// outcome is a list of numbers, and its mark, worked out ahead.
type outcome struct {
	l    []int
	mark int
}

// worked are lists with marks that were worked out elsewhere, from the chapter's words alone.
func worked() []outcome {
	return []outcome{
		{nil, 5472609002491880229},
		{[]int{0}, 2938590176187398597},
		{[]int{1}, 706274769219809188},
		{[]int{-1}, 933681686290597949},
		{[]int{2}, 7403220990122577415},
		{[]int{-2}, 8942518431645140508},
		{[]int{127}, 1347470266357551770},
		{[]int{128}, 2750429125540792901},
		{[]int{255}, 1159309215710946074},
		{[]int{256}, 7166771442326333162},
		{[]int{257}, 5701465539935650431},
		{[]int{-255}, 98952073673114035},
		{[]int{-256}, 6223384550064044434},
		{[]int{-257}, 5640885240850871138},
		{[]int{65535}, 746917490524649227},
		{[]int{65536}, 5490332145143018380},
		{[]int{1<<31 - 1}, 8595428059787673953},
		{[]int{1 << 31}, 5860980763039959109},
		{[]int{-1 << 31}, 930729594854491041},
		{[]int{-1<<31 - 1}, 6984376018967395005},
		{[]int{1<<32 - 1}, 5673037472935113441},
		{[]int{1 << 32}, 634246865027890484},
		{[]int{1<<32 + 1}, 3010618080379317301},
		{[]int{-1 << 32}, 4382049193155838753},
		{[]int{1 << 40}, 2314424912807344922},
		{[]int{math.MaxInt}, 933822423779008957},
		{[]int{math.MaxInt - 1}, 8942659169133551516},
		{[]int{math.MinInt}, 2938449438698987589},
		{[]int{math.MinInt + 1}, 706134031731398180},
		{[]int{toZero}, 0},
		{[]int{1, 2}, 8581494755304202342},
		{[]int{2, 1}, 513837244993915590},
		{[]int{1, 1}, 6349179348336612933},
		{[]int{0, 0}, 585502832614925413},
		{[]int{0, 0, 0}, 131237531801625349},
		{[]int{-1, -1}, 6224103366367242325},
		{[]int{1, 0}, 4116863941369023524},
		{[]int{0, 1}, 7576559462502111812},
		{[]int{math.MaxInt, math.MinInt}, 3258221292563947997},
		{[]int{math.MinInt, math.MaxInt}, 8480406576031218141},
		{[]int{toZero, 0}, 0},
		{[]int{toZero, 5}, 1938204997983171237},
		{[]int{1, 2, 3, 4, 5}, 2827222415939982756},
	}
}

// edges are numbers at which a byte, a sign or a size begins or ends.
func edges() []int {
	l := []int{0, toZero, toZero - 1, toZero + 1}
	for at := range 64 {
		power := 1 << at
		l = append(l, power, power-1, power+1, -power, -power-1, -power+1)
	}
	slices.Sort(l)
	return slices.Compact(l)
}

// single are all numbers of which but one of the 8 bytes is set, byte by byte.
func single() []int {
	var l []int
	for place := range 8 {
		for b := 1; b < 256; b++ {
			l = append(l, b<<(8*place))
		}
	}
	return l
}

// luck tells numbers that are as if drawn, the same ones each time.
type luck uint64

func (l *luck) below(n int) int {
	*l = *l*6364136223846793005 + 1442695040888963407
	return int(uint64(*l)>>33) % n
}

// number is any number, an edge now and then.
func (l *luck) number(of []int) int {
	switch l.below(3) {
	case 0:
		return of[l.below(len(of))]
	case 1:
		return l.below(512) - 256
	}
	return l.below(1<<31)<<33 ^ l.below(1<<31)<<11 ^ l.below(1<<31)
}

// numbers are so many of these.
func (l *luck) numbers(many int) []int {
	of := edges()
	all := make([]int, many)
	for place := range all {
		all[place] = l.number(of)
	}
	return all
}

// marked is a mark to which the list was added at once.
func marked(l ...int) *Mark {
	m := New()
	m.Add(l...)
	return m
}

// checkSum holds Sum against a mark, twice in a row.
func checkSum(t *testing.T, what string, m *Mark, want int) {
	t.Helper()
	same(t, "Sum of "+what, m.Sum(), want)
	same(t, "Sum again of "+what, m.Sum(), want)
}

// check holds what both tell of the list against its mark.
func check(t *testing.T, l []int, want int) {
	t.Helper()
	if got := Of(l); got != want {
		t.Errorf("Of(%s): %d, want %d", short(l), got, want)
	}
	if got := marked(l...).Sum(); got != want {
		t.Errorf("Sum behind Add(%s): %d, want %d", short(l), got, want)
	}
}

// Promise 13.1: the mark of no numbers, as long as none was added.
func TestSumOfNoNumbers(t *testing.T) {
	checkSum(t, "a new mark", New(), ofNone)
	none := map[string][]int{"nil": nil, "an empty list": {}, "an empty list with room": make([]int, 0, 9), "an empty part": []int{1, 2, 3}[1:1]}
	for what, l := range none {
		m := New()
		for range 20 {
			m.Add(l...)
			checkSum(t, what, m, ofNone)
		}
	}
	m := New()
	for range 20 {
		m.Add()
		checkSum(t, "a mark that was given no numbers", m, ofNone)
	}
	for range 20 {
		m.Add()
		for _, l := range none {
			m.Add(l...)
		}
	}
	checkSum(t, "a mark that was given all kinds of none", m, ofNone)
}

// Promises 13.1 and 13.2: the marks that were worked out ahead, those of the chapter's example among them.
func TestMarksThatWereWorkedOut(t *testing.T) {
	for _, row := range worked() {
		checkSum(t, short(row.l), marked(row.l...), row.mark)
		same(t, "Of("+short(row.l)+")", Of(row.l), row.mark)
		same(t, "what the tests want of "+short(row.l), wantMark(row.l), row.mark)
	}
}

// Promises 13.1 and 13.2: one number, at each edge, and of each single byte at each place.
func TestOneNumber(t *testing.T) {
	for _, n := range slices.Concat(edges(), single()) {
		check(t, []int{n}, wantMark([]int{n}))
	}
	for n := range 1 << 17 {
		check(t, []int{n - 1<<16}, wantMark([]int{n - 1<<16}))
	}
}

// Promises 13.1 and 13.2: the lowest byte of a number comes first, and each of the 8 counts, so that no two single bytes have one mark.
func TestBytesOfANumber(t *testing.T) {
	by := map[int]int{Of([]int{0}): 0}
	for _, n := range single() {
		m := marked(n).Sum()
		other, known := by[m]
		if known {
			t.Errorf("the mark of %d is that of %d: %d", n, other, m)
		}
		by[m] = n
	}
	same(t, "how many marks there are", len(by), 8*255+1)
	check(t, single(), wantMark(single()))
	row := []byte{1, 2, 3, 4, 5, 6, 7, 8}
	sum := fnv.New64a()
	sum.Write(row)
	same(t, "Of 0x0807060504030201", Of([]int{0x0807060504030201}), int(sum.Sum64()&math.MaxInt64))
}

// Promises 13.1 and 13.2: two numbers, in either order, and the same one twice.
func TestTwoNumbers(t *testing.T) {
	all := edges()
	for _, a := range all {
		for _, b := range all {
			l := []int{a, b}
			want := wantMark(l)
			check(t, l, want)
			m := marked(a)
			m.Add(b)
			if got := m.Sum(); got != want {
				t.Errorf("Sum behind Add(%d) and Add(%d): %d, want %d", a, b, got, want)
			}
			if a != b && want == wantMark([]int{b, a}) {
				t.Errorf("%d and %d have one mark in either order", a, b)
			}
		}
	}
}

// Promises 13.1 and 13.2: three numbers, and how many of the same there are.
func TestFewNumbers(t *testing.T) {
	few := []int{0, 1, -1, 2, 255, 256, -256, 1 << 31, 1 << 32, toZero, math.MaxInt, math.MinInt}
	for _, a := range few {
		for _, b := range few {
			for _, c := range few {
				check(t, []int{a, b, c}, wantMark([]int{a, b, c}))
			}
		}
	}
	for _, n := range few {
		var l []int
		m := New()
		for range 300 {
			l = append(l, n)
			m.Add(n)
			want := wantMark(l)
			check(t, l, want)
			checkSum(t, fmt.Sprint(n, ", so many times: ", len(l)), m, want)
		}
	}
}

// Promises 13.1 and 13.2: many numbers, and very many.
func TestManyNumbers(t *testing.T) {
	check(t, edges(), wantMark(edges()))
	l := new(luck).numbers(1 << 18)
	for _, many := range []int{10, 63, 64, 65, 255, 256, 257, 1000, 4096, 1<<16 - 1, 1 << 16, 1<<16 + 1, 1 << 18} {
		check(t, l[:many], wantMark(l[:many]))
		check(t, make([]int, many), wantMark(make([]int, many)))
	}
}

// Promise 13.1: who asks for Sum between changes nothing, however often.
func TestSumChangesNothing(t *testing.T) {
	l := new(luck).numbers(2000)
	asked, left := New(), New()
	for place, n := range l {
		for range place % 4 {
			asked.Sum()
		}
		checkSum(t, short(l[:place]), asked, wantMark(l[:place]))
		asked.Add(n)
		left.Add(n)
	}
	checkSum(t, "a mark that was asked all the time", asked, wantMark(l))
	checkSum(t, "a mark that was asked for at last", left, wantMark(l))
}

// Promise 13.1: what brings a mark to 0 leaves it one to which numbers are added, and no nil or zero one.
func TestAMarkThatComesTo0(t *testing.T) {
	same(t, "what a mark is made of behind the number that brings it to 0", whole([]int{toZero}), 0)
	m := marked(toZero)
	checkSum(t, "a mark that came to 0", m, 0)
	m.Add()
	checkSum(t, "a mark that came to 0, and no numbers", m, 0)
	m.Add(0)
	m.Add(0, 0, 0)
	checkSum(t, "a mark that came to 0, and numbers of bytes 0", m, 0)
	m.Add(5)
	checkSum(t, "a mark that came to 0, four times 0, and 5", m, 1938204997983171237)
	m.Add(6, 7)
	checkSum(t, "a mark that came to 0, and on", m, wantMark([]int{toZero, 0, 0, 0, 0, 5, 6, 7}))
	check(t, []int{toZero, 0, 0, 5, 6}, wantMark([]int{toZero, 0, 0, 5, 6}))
}

// Promise 13.1: marks beside each other do not meet.
func TestMarksBesideEachOther(t *testing.T) {
	var l luck
	of := edges()
	var marks [7]*Mark
	var lists [7][]int
	for place := range marks {
		marks[place] = New()
	}
	for range 3000 {
		place := l.below(len(marks))
		n := l.number(of)
		marks[place].Add(n)
		lists[place] = append(lists[place], n)
		other := l.below(len(marks))
		checkSum(t, fmt.Sprint("mark ", other), marks[other], wantMark(lists[other]))
	}
	checkSum(t, "a new mark beside them", New(), ofNone)
	for place := range marks {
		checkSum(t, fmt.Sprint("mark ", place), marks[place], wantMark(lists[place]))
	}
}

// Promise 13.1: a nil mark and a zero one have the mark of no numbers, and Add does nothing with them.
func TestNilAndZeroMarks(t *testing.T) {
	var none *Mark
	many := new(luck).numbers(1000)
	for what, m := range map[string]*Mark{"a nil mark": none, "a zero mark": {}, "a new zero mark": new(Mark)} {
		checkSum(t, what, m, ofNone)
		for _, l := range [][]int{nil, {}, {0}, {1}, {-1}, {toZero}, {math.MaxInt}, {math.MinInt}, {1, 2}, many, single()} {
			m.Add(l...)
			checkSum(t, what+" behind "+short(l), m, ofNone)
		}
		m.Add()
		checkSum(t, what+" behind all of these", m, ofNone)
	}
	var flat Mark
	flat.Add(1, 2, 3)
	same(t, "Sum of a zero mark as a value", flat.Sum(), ofNone)
	checkSum(t, "a new mark beside them", marked(1, 2), 8581494755304202342)
}

// Promise 13.1: a mark has all numbers that Add was given, if it is given them at the same time as well; numbers that are added together stay one behind the other.
func TestAddAtTheSameTime(t *testing.T) {
	const callers, rounds = 8, 400
	given := new(luck).numbers(200)
	m := New()
	begin := make(chan struct{})
	var all sync.WaitGroup
	for range callers {
		all.Go(func() {
			<-begin
			for range rounds {
				m.Add(given...)
			}
		})
	}
	close(begin)
	all.Wait()
	checkSum(t, "a mark that many added to", m, wantMark(slices.Repeat(given, callers*rounds)))
}

// Promises 13.1 and 13.2: a list is not changed, nor what lies around it, and it is one's own behind the call.
func TestListsAreLeftAsTheyWere(t *testing.T) {
	world := new(luck).numbers(40)
	was := slices.Clone(world)
	for from := range 20 {
		for to := from; to <= 20; to++ {
			m := New()
			part := world[from:to]
			want := wantMark(part)
			same(t, "Of("+short(part)+")", Of(part), want)
			m.Add(part...)
			if !slices.Equal(world, was) {
				t.Fatalf("%s is changed", short(part))
			}
			for place := range world {
				world[place] = -7
			}
			checkSum(t, "a list that is changed behind Add", m, want)
			copy(world, was)
		}
	}
}

// Promises 13.1 and 13.2: what is left by 2^63 is told, so that nothing is below 0, whether or not the mark modulo 2^64 is 2^63 or more.
func TestWhatIsLeftOfAMark(t *testing.T) {
	var l luck
	of := edges()
	high, low := 0, 0
	for range 20000 {
		list := []int{l.number(of), l.number(of)}
		want := whole(list)
		if want >= 1<<63 {
			high++
			want -= 1 << 63
		} else {
			low++
		}
		check(t, list, int(want))
		if Of(list) < 0 || marked(list...).Sum() < 0 {
			t.Fatalf("the mark of %v is below 0", list)
		}
	}
	if high < 1000 || low < 1000 {
		t.Errorf("%d are 2^63 or more and %d are less: too few of either", high, low)
	}
}

// wantText is the mark of the text, by way of the list whose mark it is.
func wantText(s string) int {
	l := []int{len(s)}
	for place := range len(s) {
		l = append(l, int(s[place]))
	}
	return wantMark(l)
}

// checkText holds Text against what has to be told, and against Of.
func checkText(t *testing.T, s string) {
	t.Helper()
	if got, want := Text(s), wantText(s); got != want {
		t.Errorf("Text of %s: %d, want %d", shortText(s), got, want)
	}
	l := []int{len(s)}
	for _, b := range []byte(s) {
		l = append(l, int(b))
	}
	if got, want := Text(s), Of(l); got != want {
		t.Errorf("Text of %s: %d, and Of the same: %d", shortText(s), got, want)
	}
}

// Promise 13.2: the mark of the empty text is that of a 0, and of a text of one byte that of 1 and that byte.
func TestTextsOfFewBytes(t *testing.T) {
	same(t, "Text of the empty text", Text(""), 2938590176187398597)
	same(t, "Text of the byte 0", Text("\x00"), 4116863941369023524)
	same(t, "Text of the byte 2", Text("\x02"), 8581494755304202342)
	for a := range 256 {
		one := string([]byte{byte(a)})
		checkText(t, one)
		same(t, "Text of "+shortText(one), Text(one), Of([]int{1, a}))
		for b := range 256 {
			checkText(t, string([]byte{byte(a), byte(b)}))
		}
	}
}

// Promise 13.2: a byte 0 counts, at the front, at the end, and anywhere.
func TestTextsWithBytes0(t *testing.T) {
	by := map[int]string{}
	for _, s := range []string{"", "\x00", "\x00\x00", "\x00\x00\x00", "a", "\x00a", "a\x00", "\x00a\x00", "a\x00b", "ab", "ab\x00", "\x00ab", "\x01", "\x01\x00", "\x00\x01"} {
		checkText(t, s)
		other, known := by[Text(s)]
		if known {
			t.Errorf("%s has the mark of %s", shortText(s), shortText(other))
		}
		by[Text(s)] = s
	}
	for many := range 300 {
		checkText(t, strings.Repeat("\x00", many))
	}
}

// Promise 13.2: how many bytes there are counts, so that a text's beginning has another mark.
func TestTextsThatBeginAlike(t *testing.T) {
	text := "lay 3 16\x00\xff\u00e9\n tick, and \"on\" it goes\\"
	by := map[int]int{}
	for many := range len(text) + 1 {
		checkText(t, text[:many])
		checkText(t, text[many:])
		other, known := by[Text(text[:many])]
		if known {
			t.Errorf("the first %d bytes have the mark of the first %d", many, other)
		}
		by[Text(text[:many])] = many
	}
	same(t, "Text of a", Text("a"), Of([]int{1, 97}))
	same(t, "Text of ab", Text("ab"), Of([]int{2, 97, 98}))
}

// Promise 13.2: texts are told byte by byte, whether or not they are UTF-8.
func TestTextsThatAreNoUTF8(t *testing.T) {
	for _, s := range []string{"\u00e9", "\xe9", "\xc3", "\xc3\xa9", "\xa9\xc3", "\xff\xfe\xfd", "\x80", "\xc0\x80", "\xed\xa0\x80", "\xf4\x90\x80\x80", "\u65e5\u672c", "\U0001f600", "\xf0\x9f\x98", "\ufffd", "\xef\xbf\xbd"} {
		checkText(t, s)
		checkText(t, "a"+s+"b")
	}
	same(t, "Text of an e with an accent", Text("\u00e9"), Of([]int{2, 195, 169}))
	same(t, "Text of a byte that is no rune", Text("\xe9"), Of([]int{1, 233}))
	if Text("\xff") == Text("\ufffd") {
		t.Error("a byte that is no rune has the mark of the rune that stands for such")
	}
}

// Promise 13.2: long texts.
func TestLongTexts(t *testing.T) {
	var l luck
	for _, many := range []int{3, 7, 8, 9, 63, 64, 65, 255, 256, 257, 4095, 4096, 4097, 65535, 65536, 65537, 1 << 20} {
		drawn := make([]byte, many)
		for place := range drawn {
			drawn[place] = byte(l.below(256))
		}
		checkText(t, string(drawn))
		checkText(t, strings.Repeat("a", many))
		checkText(t, strings.Repeat("\xff", many))
	}
}

// parted calls each with all ways to part the list into rows of numbers, one behind the other.
func parted(l []int, each func(parts [][]int)) {
	for cuts := range 1 << max(0, len(l)-1) {
		var parts [][]int
		from := 0
		for place := 1; place < len(l); place++ {
			if cuts>>(place-1)&1 == 1 {
				parts = append(parts, l[from:place])
				from = place
			}
		}
		each(append(parts, l[from:]))
	}
}

// addParts adds the parts, and holds Sum behind each against the mark of all so far.
func addParts(t *testing.T, parts [][]int) {
	t.Helper()
	m := New()
	var all []int
	for _, part := range parts {
		m.Add(part...)
		all = append(all, part...)
		want := wantMark(all)
		if m.Sum() != want || Of(all) != want {
			t.Fatalf("behind the parts of %s, up to %s: Sum %d, Of %d, want %d", short(all), short(part), m.Sum(), Of(all), want)
		}
	}
	same(t, "Sum of "+short(all)+" that was added at once", marked(all...).Sum(), m.Sum())
}

// Promise 13.3: numbers that are added part by part have the mark of all, wherever they are parted.
func TestNumbersAddedPartByPart(t *testing.T) {
	for _, l := range [][]int{nil, {7}, {1, 2}, {toZero, 0, 1}, {0, 0, 0, 0, 0}, {1, -1, 256, math.MaxInt, math.MinInt, 1 << 32, 0, 9}, {5, 5, 5, 5, 5, 5, 5, 5, 5, 5}} {
		parted(l, func(parts [][]int) {
			addParts(t, parts)
			var mixed [][]int
			for _, part := range parts {
				mixed = append(mixed, nil, part, []int{}, nil)
			}
			addParts(t, mixed)
		})
	}
}

// Promise 13.3: so do long rows of parts, of many numbers and of none.
func TestManyParts(t *testing.T) {
	var l luck
	for range 60 {
		rest := l.numbers(l.below(600))
		var parts [][]int
		for len(rest) > 0 {
			many := min(len(rest), l.below(40))
			parts = append(parts, rest[:many])
			rest = rest[many:]
		}
		addParts(t, parts)
	}
}

// Promise 13.3: a text's mark is that of how many bytes it has and of these, added byte by byte.
func TestATextAddedByteByByte(t *testing.T) {
	for _, s := range []string{"", "a", "tick", "\x00\xff\u00e9 and on", strings.Repeat("lay 3 16\n", 100)} {
		m := marked(len(s))
		for place := range len(s) {
			m.Add(int(s[place]))
		}
		checkSum(t, shortText(s), m, Text(s))
	}
}
