package digits

import (
	"fmt"
	"math"
	"math/big"
	"regexp"
	"slices"
	"strings"
	"testing"
)

func same[T comparable](t *testing.T, what string, got, want T) {
	t.Helper()
	if got != want {
		t.Errorf("%s: %v, want %v", what, got, want)
	}
}

// short is a text in quotes, of which the middle is left out if it is long.
func short(text string) string {
	if len(text) > 80 {
		return fmt.Sprintf("%+q..(%d bytes)..%+q", text[:20], len(text), text[len(text)-20:])
	}
	return fmt.Sprintf("%+q", text)
}

// sameNumber holds a number and a yes or no against the ones that have to be.
func sameNumber(t *testing.T, what string, got int, read bool, want int, wantRead bool) {
	t.Helper()
	if got != want || read != wantRead {
		t.Errorf("%s: %d, %v, want %d, %v", what, got, read, want, wantRead)
	}
}

// checkRead holds Read of a text against what has to be told.
func checkRead(t *testing.T, text string, want int, wantRead bool) {
	t.Helper()
	n, read := Read(text)
	sameNumber(t, "Read of "+short(text), n, read, want, wantRead)
}

// checkReadHex holds ReadHex of a text against what has to be told.
func checkReadHex(t *testing.T, text string, want int, wantRead bool) {
	t.Helper()
	n, read := ReadHex(text)
	sameNumber(t, "ReadHex of "+short(text), n, read, want, wantRead)
}

// checkWords holds Words of a text against what has to be told.
func checkWords(t *testing.T, text string, want []string, wantWords bool) {
	t.Helper()
	words, are := Words(text)
	if !slices.Equal(words, want) || are != wantWords {
		t.Errorf("Words of %s: %d words %s, %v, want %d words %s, %v", short(text), len(words), short(strings.Join(words, "|")), are, len(want), short(strings.Join(want, "|")), wantWords)
	}
}

var (
	decimal = regexp.MustCompile(`\A(0|-?[1-9][0-9]*)\z`)
	sixteen = regexp.MustCompile(`\A[0-9a-f]{1,16}\z`)
)

// fit is the number of which a text is the digits to a base, with numbers that have no end; false, if it does not fit an int.
func fit(text string, base int) (int, bool) {
	n, known := new(big.Int).SetString(text, base)
	if !known || !n.IsInt64() {
		return 0, false
	}
	return int(n.Int64()), true
}

// wantRead is what Read has to tell.
func wantRead(text string) (int, bool) {
	if !decimal.MatchString(text) {
		return 0, false
	}
	return fit(text, 10)
}

// wantReadHex is what ReadHex has to tell.
func wantReadHex(text string) (int, bool) {
	if !sixteen.MatchString(text) {
		return 0, false
	}
	return fit(text, 16)
}

// wantWord is what Word has to tell, byte by byte.
func wantWord(text string) bool {
	for place := range len(text) {
		if text[place] < 33 || text[place] > 126 {
			return false
		}
	}
	return len(text) > 0
}

// wantWords is what Words has to tell: what stands between the blanks, if all of it is words.
func wantWords(text string) ([]string, bool) {
	if text == "" {
		return nil, true
	}
	parts := strings.Split(text, "\x20")
	for _, part := range parts {
		if !wantWord(part) {
			return nil, false
		}
	}
	return parts, true
}

// checkAll holds all that reads texts against what has to be told of one.
func checkAll(t *testing.T, text string) {
	t.Helper()
	n, read := wantRead(text)
	checkRead(t, text, n, read)
	n, read = wantReadHex(text)
	checkReadHex(t, text, n, read)
	if got, want := Word(text), wantWord(text); got != want {
		t.Errorf("Word of %s: %v, want %v", short(text), got, want)
	}
	words, are := wantWords(text)
	checkWords(t, text, words, are)
	if are && Join(words) != text {
		t.Errorf("Join of the words of %s: %s", short(text), short(Join(words)))
	}
}

// luck is a row of numbers that are the same in each run.
type luck uint64

// below is the next one of them, from 0 to n-1.
func (l *luck) below(n int) int {
	*l = *l*6364136223846793005 + 1442695040888963407
	return int(uint64(*l) >> 33 % uint64(n))
}

// numbered are numbers with their texts.
var numbered = []struct {
	n    int
	text string
}{
	{0, "0"},
	{1, "1"},
	{-1, "-1"},
	{2, "2"},
	{3, "3"},
	{4, "4"},
	{5, "5"},
	{6, "6"},
	{7, "7"},
	{8, "8"},
	{9, "9"},
	{-9, "-9"},
	{10, "10"},
	{-10, "-10"},
	{11, "11"},
	{-11, "-11"},
	{99, "99"},
	{-99, "-99"},
	{100, "100"},
	{-100, "-100"},
	{101, "101"},
	{105, "105"},
	{1000203040506070809, "1000203040506070809"},
	{-1000203040506070809, "-1000203040506070809"},
	{4096, "4096"},
	{1 << 40, "1099511627776"},
	{1 << 62, "4611686018427387904"},
	{999999999999999999, "999999999999999999"},
	{-999999999999999999, "-999999999999999999"},
	{1000000000000000000, "1000000000000000000"},
	{-1000000000000000000, "-1000000000000000000"},
	{1000000000000000001, "1000000000000000001"},
	{9223372036854775799, "9223372036854775799"},
	{9223372036854775800, "9223372036854775800"},
	{9223372036854775805, "9223372036854775805"},
	{9223372036854775806, "9223372036854775806"},
	{9223372036854775807, "9223372036854775807"},
	{-9223372036854775799, "-9223372036854775799"},
	{-9223372036854775800, "-9223372036854775800"},
	{-9223372036854775806, "-9223372036854775806"},
	{-9223372036854775807, "-9223372036854775807"},
	{-9223372036854775808, "-9223372036854775808"},
}

// Promises 11.1 and 11.4: a number's text, which is read as that number.
func TestNum(t *testing.T) {
	for _, row := range numbered {
		same(t, fmt.Sprint("Num of ", row.n), Num(row.n), row.text)
		checkRead(t, row.text, row.n, true)
	}
}

// Promises 11.1 and 11.4: powers of ten, one less and one more, above 0 and below; their texts are laid of nines, zeros and a one.
func TestPowersOfTen(t *testing.T) {
	power := 1
	for zeros := range 19 {
		all := strings.Repeat("0", zeros)
		less := strings.Repeat("9", zeros)
		if zeros == 0 {
			less = "0"
		}
		more := "1" + strings.Repeat("0", max(zeros-1, 0)) + "1"
		if zeros == 0 {
			more = "2"
		}
		for n, text := range map[int]string{power - 1: less, power: "1" + all, power + 1: more} {
			same(t, fmt.Sprint("Num of ", n), Num(n), text)
			checkRead(t, text, n, true)
			if n > 0 {
				same(t, fmt.Sprint("Num of ", -n), Num(-n), "-"+text)
				checkRead(t, "-"+text, -n, true)
			}
			checkRead(t, "0"+text, 0, false)
			checkRead(t, "-0"+text, 0, false)
		}
		power *= 10
	}
}

// Promises 11.1 and 11.4: each of many small numbers, and of those at both ends, is told otherwise than all others, without a 0 ahead, and is read.
func TestManyNumbers(t *testing.T) {
	const many = 20000
	told := map[string]int{}
	for step := range many {
		for _, n := range []int{step, -step - 1, math.MaxInt - step, math.MinInt + step} {
			text := Num(n)
			if before, known := told[text]; known {
				t.Fatalf("Num of %d and of %d: %s", before, n, text)
			}
			told[text] = n
			want, read := wantRead(text)
			sameNumber(t, "the text of Num of "+fmt.Sprint(n), want, read, n, true)
			checkRead(t, text, n, true)
		}
	}
}

// Promise 11.1: texts that are no number's, or of one that does not fit an int.
func TestReadNone(t *testing.T) {
	for _, text := range []string{
		"", "-", "+", "--", "-+", "+-", "--1", "-+1", "+-1", "- 1", "-\n1",
		"+0", "+1", "+9223372036854775807", "-0", "--0", "+-0",
		"00", "01", "05", "09", "000", "007", "010", "00000000000000000001", "-00", "-01", "-05", "-09", "-010", "-007",
		" ", " 1", "1 ", "1 2", "  1", "1  ", " -1", "-1 ", "- ", "-1 2", "\t1", "1\t", "1\n", "\n1", "1\r", "\x001", "1\x00", "1\x002",
		"/", "1/", "/1", "1/2", ":", "1:", ":1", "1:2", "-/", "-:", "-1/", "-:1",
		"1-", "1-2", "12-", "-1-", "1-1", "0-", "0-1", "-1-2",
		"1.", "1.0", ".1", "1,000", "1_000", "1_0", "_1", "1e3", "1E3", "0x1", "0x", "0b1", "0o7", "a", "f", "1a", "a1", "A", "1A", "1f", "x", "1x", "inf", "nan", "NaN",
		"9223372036854775808", "9223372036854775809", "9223372036854775810", "9223372036854775817", "9223372036854775900", "9223372036854776000", "9300000000000000000", "9999999999999999999",
		"-9223372036854775809", "-9223372036854775810", "-9223372036854775818", "-9223372036854775900", "-9300000000000000000", "-9999999999999999999",
		"10000000000000000000", "-10000000000000000000", "18446744073709551615", "18446744073709551616", "18446744073709551617", "-18446744073709551615", "-18446744073709551616", "-18446744073709551617",
		"27670116110564327423", "27670116110564327424", "36893488147419103232", "92233720368547758070", "100000000000000000000", "-100000000000000000000", "999999999999999999999", "340282366920938463463374607431768211457",
		"1\u0661", "\u0661", "\u0660", "\u06f1", "\u0967", "\uff11", "1\uff10", "-\uff11", "\u00b2", "\u00b9", "\u2460", "\u2212" + "1", "\uff0d" + "1", "\ufeff1", "1\u00a0", "\u00a01", "\U0001d7cf", "\u0131", "\u0130",
		"\x80", "\xff", "1\x80", "\x801", "1\xff2", "-\xff", "\xc2", "1\xc2", "\xed\xa0\x80", "\xb1", "\xf0\x90", "\xc0\xb1", "\ufffd", "1\ufffd",
	} {
		checkRead(t, text, 0, false)
	}
}

// Promise 11.1: texts far longer than those of numbers, with and without a fault at their front, in their middle and at their end.
func TestReadLong(t *testing.T) {
	for _, length := range []int{18, 19, 20, 21, 22, 38, 39, 40, 64, 100, 4096, 100000} {
		for _, digit := range []string{"0", "1", "5", "9"} {
			row := strings.Repeat(digit, length)
			for _, text := range []string{row, "-" + row, "1" + row, "-1" + row, "+" + row, " " + row, row + " ", row + "-", row + "a", row[:length/2] + " " + row[length/2:], row[:length/2] + "\xff" + row[length/2:]} {
				n, read := wantRead(text)
				checkRead(t, text, n, read)
			}
		}
	}
}

// Promise 11.1: the texts about both ends of int, and about what more bits than an int has would wrap round to.
func TestReadEnds(t *testing.T) {
	for _, bits := range []uint{31, 32, 62, 63, 64, 65, 66, 68, 127, 128} {
		about := new(big.Int).Lsh(big.NewInt(1), bits)
		for step := int64(-300); step <= 300; step++ {
			text := new(big.Int).Add(about, big.NewInt(step)).String()
			for _, signed := range []string{text, "-" + text} {
				n, read := wantRead(signed)
				checkRead(t, signed, n, read)
			}
		}
	}
}

// Promises 11.1, 11.3 and 11.5: all texts of one byte and of two, and all that have any byte ahead of digits, between them or behind them.
func TestAllBytes(t *testing.T) {
	checkAll(t, "")
	for first := range 256 {
		one := string([]byte{byte(first)})
		for _, text := range []string{one, one + "12", "1" + one + "2", "12" + one, "-" + one, "-" + one + "1", "-1" + one, "a" + one + "b", "a " + one, one + " a", "a " + one + " b"} {
			checkAll(t, text)
		}
		for second := range 256 {
			checkAll(t, string([]byte{byte(first), byte(second)}))
		}
	}
}

// each tells all texts of up to so many of the parts, one behind the other.
func each(parts []string, most int, tell func(text string)) {
	var add func(text string, left int)
	add = func(text string, left int) {
		tell(text)
		if left == 0 {
			return
		}
		for _, part := range parts {
			add(text+part, left-1)
		}
	}
	add("", most)
}

// Promises 11.1, 11.3 and 11.5: all short texts of bytes that digits, signs and blanks have beside them.
func TestShortTexts(t *testing.T) {
	each([]string{"-", "0", "1", "9"}, 7, func(text string) { checkAll(t, text) })
	each([]string{" ", "a", "!", "~", "\x1f", "\x7f"}, 6, func(text string) { checkAll(t, text) })
	each([]string{" ", "-", "+", "0", "7", "/", ":", "`", "f", "g", "A", "\n", "\x80", "\u00e9", "\uff11"}, 4, func(text string) { checkAll(t, text) })
}

// Promises 11.1, 11.3 and 11.5: texts by luck, of bytes of which many are right.
func TestLuckyTexts(t *testing.T) {
	l := luck(11)
	kinds := []string{"0123456789", "0123456789-", "0123456789abcdef", "0123456789abcdefABCDEFg", "ab ", "ab!~ ", "ab!~ \x7f", "0123456789 -\x00\x80\xff"}
	for range 60000 {
		kind := kinds[l.below(len(kinds))]
		text := make([]byte, l.below(24))
		for place := range text {
			text[place] = kind[l.below(len(kind))]
		}
		checkAll(t, string(text))
		checkAll(t, "-"+string(text))
	}
}

// checkWithin holds Within against what has to be told.
func checkWithin(t *testing.T, text string, low, high int) {
	t.Helper()
	want, read := wantRead(text)
	if want < low || want > high || !read {
		want, read = 0, false
	}
	n, within := Within(text, low, high)
	sameNumber(t, fmt.Sprintf("Within of %s, %d and %d", short(text), low, high), n, within, want, read)
}

// Promise 11.2: as Read, but none of a number that is below low or above high.
func TestWithin(t *testing.T) {
	for _, row := range []struct {
		text      string
		low, high int
		n         int
		within    bool
	}{
		{"5", 5, 9, 5, true},
		{"9", 5, 9, 9, true},
		{"7", 5, 9, 7, true},
		{"4", 5, 9, 0, false},
		{"10", 5, 9, 0, false},
		{"5", 5, 5, 5, true},
		{"4", 5, 5, 0, false},
		{"6", 5, 5, 0, false},
		{"5", 9, 5, 0, false},
		{"7", 9, 5, 0, false},
		{"9", 9, 5, 0, false},
		{"5", 6, 5, 0, false},
		{"6", 6, 5, 0, false},
		{"0", 0, 0, 0, true},
		{"0", 1, 5, 0, false},
		{"0", -5, -1, 0, false},
		{"0", 1, -1, 0, false},
		{"-3", -5, -1, -3, true},
		{"-5", -5, -1, -5, true},
		{"-1", -5, -1, -1, true},
		{"-6", -5, -1, 0, false},
		{"1", -5, -1, 0, false},
		{"9223372036854775807", math.MinInt, math.MaxInt, math.MaxInt, true},
		{"-9223372036854775808", math.MinInt, math.MaxInt, math.MinInt, true},
		{"0", math.MinInt, math.MaxInt, 0, true},
		{"0", math.MaxInt, math.MinInt, 0, false},
		{"9223372036854775807", math.MaxInt, math.MaxInt, math.MaxInt, true},
		{"9223372036854775806", math.MaxInt, math.MaxInt, 0, false},
		{"9223372036854775807", math.MinInt, math.MaxInt - 1, 0, false},
		{"-9223372036854775808", math.MinInt, math.MinInt, math.MinInt, true},
		{"-9223372036854775807", math.MinInt, math.MinInt, 0, false},
		{"-9223372036854775808", math.MinInt + 1, math.MaxInt, 0, false},
		{"9223372036854775808", math.MinInt, math.MaxInt, 0, false},
		{"-9223372036854775809", math.MinInt, math.MaxInt, 0, false},
		{"", math.MinInt, math.MaxInt, 0, false},
		{"", 0, 0, 0, false},
		{"", 5, 9, 0, false},
		{"-", -1, 1, 0, false},
		{"-0", 0, 0, 0, false},
		{"-0", -1, 1, 0, false},
		{"07", 5, 9, 0, false},
		{"+7", 5, 9, 0, false},
		{"7 ", 5, 9, 0, false},
		{" 7", 5, 9, 0, false},
		{"7a", 5, 9, 0, false},
		{"\xff", -9, 9, 0, false},
	} {
		n, within := Within(row.text, row.low, row.high)
		sameNumber(t, fmt.Sprintf("Within of %q, %d and %d", row.text, row.low, row.high), n, within, row.n, row.within)
	}
}

// Promise 11.2: all of a small world, and of the telling numbers and their neighbours.
func TestAllWithin(t *testing.T) {
	for n := -12; n <= 12; n++ {
		for low := -12; low <= 12; low++ {
			for high := -12; high <= 12; high++ {
				checkWithin(t, Num(n), low, high)
			}
		}
	}
	telling := []int{math.MinInt, math.MinInt + 1, math.MinInt + 2, -1 << 40, -11, -10, -1, 0, 1, 9, 10, 1 << 40, math.MaxInt - 2, math.MaxInt - 1, math.MaxInt}
	texts := []string{"", "-", "-0", "00", "+1", "1 ", "x", "9223372036854775808", "-9223372036854775809", "18446744073709551616"}
	for _, n := range telling {
		texts = append(texts, Num(n))
	}
	for _, low := range telling {
		for _, high := range telling {
			for _, text := range texts {
				checkWithin(t, text, low, high)
			}
		}
	}
}

// Promise 11.3: a word is one byte or more, none below 33 and none above 126.
func TestWord(t *testing.T) {
	same(t, "Word of the empty text", Word(""), false)
	many := strings.Repeat("word", 300)
	same(t, "Word of many bytes", Word(many), true)
	var all []byte
	for b := range 256 {
		one := string([]byte{byte(b)})
		want := b >= 33 && b <= 126
		if want {
			all = append(all, byte(b))
		}
		for _, text := range []string{one, one + many, many + one, many[:500] + one + many[500:], one + "a", "a" + one, "a" + one + "b", one + one, one + one + one} {
			if got := Word(text); got != want {
				t.Errorf("Word of %s: %v, want %v", short(text), got, want)
			}
		}
	}
	same(t, "how many bytes words have", len(all), 94)
	same(t, "Word of all bytes that words have", Word(string(all)), true)
	checkWords(t, string(all), []string{string(all)}, true)
}

// beyond are texts that are well-formed but of other runes than bytes of words, and texts that are not well-formed; the low bits of some of these runes are those of a letter.
var beyond = []string{
	"\u0080", "\u00a0", "\u00a1", "\u00e9", "\u0100", "\u0120", "\u0121", "\u0141", "\u0161", "\u017e", "\u2003", "\u2028", "\u3000", "\uff11", "\uff41", "\ufeff", "\ufffd", "\U00010041", "\U0001f600", "\U0010ffff",
	"\x80", "\xa1", "\xc1", "\xe1", "\xfe", "\xff", "\xc2", "\xc1\xa1", "\xc0\xa1", "\xe2\x82", "\xed\xa0\x80", "\xf4\x90\x80\x80", "\xf0\x82\x82\xac", "\xff\xff",
}

// Promise 11.3: runes above all bytes, and texts that are no UTF-8, are of no word, wherever they stand.
func TestNoWord(t *testing.T) {
	for _, text := range beyond {
		for _, all := range []string{text, "a" + text, text + "a", "ab" + text + "cd"} {
			if Word(all) {
				t.Errorf("Word of %s: true, want false", short(all))
			}
			for _, line := range []string{all, all + " b", "b " + all, "b " + all + " c", "b c d e f " + all} {
				checkWords(t, line, nil, false)
			}
		}
	}
}

// Promise 11.3: the words of a text, with one blank between each two.
func TestWords(t *testing.T) {
	for _, row := range []struct {
		text  string
		words []string
		are   bool
	}{
		{"", nil, true},
		{"a", []string{"a"}, true},
		{"word", []string{"word"}, true},
		{"!", []string{"!"}, true},
		{"~", []string{"~"}, true},
		{"a b", []string{"a", "b"}, true},
		{"a a", []string{"a", "a"}, true},
		{"a b c d", []string{"a", "b", "c", "d"}, true},
		{"lay 3 16 8", []string{"lay", "3", "16", "8"}, true},
		{"some words of many bytes", []string{"some", "words", "of", "many", "bytes"}, true},
		{"! ~ !~ ~!", []string{"!", "~", "!~", "~!"}, true},
		{`a "b c" \d`, []string{"a", `"b`, `c"`, `\d`}, true},
		{" ", nil, false},
		{"  ", nil, false},
		{"   ", nil, false},
		{" a", nil, false},
		{"a ", nil, false},
		{" a ", nil, false},
		{"a  b", nil, false},
		{"a   b", nil, false},
		{"  a b", nil, false},
		{" a b", nil, false},
		{"a b ", nil, false},
		{"a b  ", nil, false},
		{"a b  c", nil, false},
		{"a  b c", nil, false},
		{"a\tb", nil, false},
		{"a\nb", nil, false},
		{"a\rb", nil, false},
		{"a\vb", nil, false},
		{"a\x00b", nil, false},
		{"a\x7fb", nil, false},
		{"a\x1fb", nil, false},
		{"a\u00a0b", nil, false},
		{"a\u2003b", nil, false},
		{"a b\n", nil, false},
		{"\na b", nil, false},
		{"a \n b", nil, false},
		{"a\n b", nil, false},
		{"a \nb", nil, false},
		{"a b\x7f c", nil, false},
		{"\x1fa b c", nil, false},
		{"a b c\x80", nil, false},
		{"\xff a b", nil, false},
		{"a \xff b", nil, false},
	} {
		checkWords(t, row.text, row.words, row.are)
	}
}

// Promises 11.3 and 11.4: a text of very many words, and one of a very long word; with one fault at any of a few places there are none.
func TestManyWords(t *testing.T) {
	words := make([]string, 20000)
	for place := range words {
		words[place] = strings.Repeat("w", 1+place%7) + Num(place)
	}
	text := strings.Join(words, " ")
	checkWords(t, text, words, true)
	same(t, "Join of very many words", Join(words) == text, true)
	long := strings.Repeat("~!", 100000)
	checkWords(t, long, []string{long}, true)
	same(t, "Join of a very long word", Join([]string{long}) == long, true)
	for _, fault := range []string{"\n", "\x7f", "\xff", "  ", "\u00e9", "\x00"} {
		for _, place := range []int{0, len(text) / 3, len(text) - 1, len(text)} {
			checkWords(t, text[:place]+fault+text[place:], nil, false)
		}
	}
}

// Promise 11.3: all texts of a list, be they words or not, with a blank between each two.
func TestJoin(t *testing.T) {
	for _, row := range []struct {
		list []string
		want string
	}{
		{nil, ""},
		{[]string{}, ""},
		{make([]string, 0, 4), ""},
		{[]string{""}, ""},
		{[]string{"a"}, "a"},
		{[]string{"word"}, "word"},
		{[]string{" "}, " "},
		{[]string{"", ""}, " "},
		{[]string{"", "", ""}, "  "},
		{[]string{"a", "b"}, "a b"},
		{[]string{"b", "a"}, "b a"},
		{[]string{"a", "a"}, "a a"},
		{[]string{"a", "b", "c", "d"}, "a b c d"},
		{[]string{"", "a"}, " a"},
		{[]string{"a", ""}, "a "},
		{[]string{"a", "", "b"}, "a  b"},
		{[]string{"", "a", "", "b", ""}, " a  b "},
		{[]string{" ", " "}, "   "},
		{[]string{"a b", "c"}, "a b c"},
		{[]string{" a", "b "}, " a b "},
		{[]string{"\n", "\x00", "\xff", "\u00e9"}, "\n \x00 \xff \u00e9"},
		{[]string{"\xc3", "\xa9"}, "\xc3 \xa9"},
	} {
		same(t, fmt.Sprintf("Join of %q", row.list), Join(row.list), row.want)
	}
}

// Promises 11.3 and 11.4: texts that are joined are as long as they have to be and stand in turn; they are told again if all are words.
func TestJoinLuck(t *testing.T) {
	l := luck(3)
	kinds := []string{"", "a", "word", "~", "!", " ", "a b", "\n", "\xff", "12"}
	for range 30000 {
		list := make([]string, l.below(7))
		words := true
		want := ""
		for place := range list {
			list[place] = kinds[l.below(len(kinds))]
			words = words && wantWord(list[place])
			if place > 0 {
				want += "\x20"
			}
			want += list[place]
		}
		text := Join(list)
		same(t, fmt.Sprintf("Join of %q", list), text, want)
		if words {
			checkWords(t, text, list, true)
		}
	}
}

// hexed are numbers with their digits to the base 16.
var hexed = []struct {
	n      int
	digits string
}{
	{0, "0"}, {1, "1"}, {2, "2"}, {3, "3"}, {4, "4"}, {5, "5"}, {6, "6"}, {7, "7"}, {8, "8"}, {9, "9"}, {10, "a"}, {11, "b"}, {12, "c"}, {13, "d"}, {14, "e"}, {15, "f"},
	{16, "10"}, {17, "11"}, {31, "1f"}, {32, "20"}, {160, "a0"}, {255, "ff"}, {256, "100"}, {257, "101"}, {4095, "fff"}, {4096, "1000"}, {43981, "abcd"}, {65535, "ffff"}, {65536, "10000"}, {1 << 20, "100000"},
	{3735928559, "deadbeef"}, {1 << 32, "100000000"}, {1 << 40, "10000000000"}, {1<<40 - 1, "ffffffffff"}, {1 << 60, "1000000000000000"}, {1<<60 - 1, "fffffffffffffff"}, {81985529216486895, "123456789abcdef"},
	{1 << 62, "4000000000000000"}, {1<<62 - 1, "3fffffffffffffff"}, {9223372036854775806, "7ffffffffffffffe"}, {9223372036854775807, "7fffffffffffffff"},
}

// wides are the numbers of digits that may be asked for, and others.
var wides = []int{math.MinInt, math.MinInt + 1, -1 << 40, -17, -16, -15, -2, -1, 0, 1, 2, 3, 4, 5, 6, 7, 8, 9, 10, 11, 12, 13, 14, 15, 16, 17, 18, 32, 64, 4096, 1 << 40, math.MaxInt - 1, math.MaxInt}

// Promises 11.5 and 11.4: the digits to the base 16, with as many 0 ahead as make them so many, which are read as the number.
func TestHex(t *testing.T) {
	for _, row := range hexed {
		for _, wide := range wides {
			want := ""
			if wide >= 1 && wide <= 16 {
				want = row.digits
				for len(want) < wide {
					want = "0" + want
				}
				checkReadHex(t, want, row.n, true)
			}
			same(t, fmt.Sprintf("Hex of %d, %d wide", row.n, wide), Hex(row.n, wide), want)
		}
	}
}

// Promise 11.5: some of the digits, written out.
func TestHexWritten(t *testing.T) {
	for _, row := range []struct {
		n, wide int
		want    string
	}{
		{0, 1, "0"},
		{0, 2, "00"},
		{0, 15, "000000000000000"},
		{0, 16, "0000000000000000"},
		{0, 17, ""},
		{0, 0, ""},
		{15, 1, "f"},
		{16, 1, "10"},
		{15, 2, "0f"},
		{255, 2, "ff"},
		{255, 3, "0ff"},
		{256, 2, "100"},
		{255, 15, "0000000000000ff"},
		{255, 16, "00000000000000ff"},
		{math.MaxInt, 1, "7fffffffffffffff"},
		{math.MaxInt, 15, "7fffffffffffffff"},
		{math.MaxInt, 16, "7fffffffffffffff"},
		{math.MaxInt, 17, ""},
		{math.MaxInt, 0, ""},
	} {
		same(t, fmt.Sprintf("Hex of %d, %d wide", row.n, row.wide), Hex(row.n, row.wide), row.want)
	}
}

// Promise 11.5: nothing is told of a number below 0, however wide.
func TestHexBelow(t *testing.T) {
	for _, n := range []int{-1, -2, -15, -16, -17, -255, -256, -1 << 32, -1 << 40, -1 << 62, math.MinInt + 1, math.MinInt} {
		for _, wide := range wides {
			same(t, fmt.Sprintf("Hex of %d, %d wide", n, wide), Hex(n, wide), "")
		}
	}
}

// Promises 11.5 and 11.4: many numbers, each as wide as may be; without those 0 ahead that wide asks for they have the digits alone.
func TestManyHex(t *testing.T) {
	l := luck(5)
	for step := range 20000 {
		for _, n := range []int{step, math.MaxInt - step, 1<<(step%63) - 1, 1 << (step % 63), l.below(1<<31)<<32>>l.below(63) | l.below(16)} {
			wide := 1 + step%16
			text := Hex(n, wide)
			want, read := wantReadHex(text)
			sameNumber(t, "the text of Hex of "+fmt.Sprint(n), want, read, n, true)
			checkReadHex(t, text, n, true)
			if len(text) < wide || len(text) > wide && text[0] == '0' {
				t.Errorf("Hex of %d, %d wide: %s", n, wide, text)
			}
		}
	}
}

// Promise 11.5: texts that are read, and those that are none of 1 to 16 digits, or do not fit.
func TestReadHex(t *testing.T) {
	for _, row := range []struct {
		text string
		n    int
		read bool
	}{
		{"0", 0, true},
		{"00", 0, true},
		{"000000000000000", 0, true},
		{"0000000000000000", 0, true},
		{"00000000000000000", 0, false},
		{"1", 1, true},
		{"01", 1, true},
		{"000000000000001", 1, true},
		{"0000000000000001", 1, true},
		{"00000000000000001", 0, false},
		{"10000000000000000", 0, false},
		{"f", 15, true},
		{"0f", 15, true},
		{"ff", 255, true},
		{"100", 256, true},
		{"123456789abcdef", 81985529216486895, true},
		{"0123456789abcdef", 81985529216486895, true},
		{"00123456789abcdef", 0, false},
		{"fffffffffffffff", 1<<60 - 1, true},
		{"7fffffffffffffff", math.MaxInt, true},
		{"7ffffffffffffffe", math.MaxInt - 1, true},
		{"07fffffffffffffff", 0, false},
		{"8000000000000000", 0, false},
		{"8000000000000001", 0, false},
		{"8fffffffffffffff", 0, false},
		{"9000000000000000", 0, false},
		{"a000000000000000", 0, false},
		{"f000000000000000", 0, false},
		{"fffffffffffffffe", 0, false},
		{"ffffffffffffffff", 0, false},
		{"fffffffffffffffff", 0, false},
		{"", 0, false},
		{"A", 0, false}, {"B", 0, false}, {"C", 0, false}, {"D", 0, false}, {"E", 0, false}, {"F", 0, false}, {"G", 0, false}, {"@", 0, false},
		{"aA", 0, false}, {"Ff", 0, false}, {"1F", 0, false}, {"7FFFFFFFFFFFFFFF", 0, false},
		{"/", 0, false}, {":", 0, false}, {"`", 0, false}, {"g", 0, false},
		{"1/", 0, false}, {"/1", 0, false}, {"1:", 0, false}, {":1", 0, false}, {"a`", 0, false}, {"`a", 0, false}, {"ag", 0, false}, {"ga", 0, false}, {"1g1", 0, false}, {"1`1", 0, false},
		{"-", 0, false}, {"-1", 0, false}, {"-0", 0, false}, {"+1", 0, false}, {"+", 0, false}, {"1-", 0, false},
		{"0x1", 0, false}, {"0x", 0, false}, {"x1", 0, false}, {"0X1", 0, false}, {"1h", 0, false}, {"0xff", 0, false},
		{" ", 0, false}, {" 1", 0, false}, {"1 ", 0, false}, {"1 1", 0, false}, {"1\n", 0, false}, {"\x001", 0, false}, {"1_1", 0, false}, {"1.0", 0, false},
		{"\uff11", 0, false}, {"\uff41", 0, false}, {"1\u0661", 0, false}, {"\u0161", 0, false}, {"\xff", 0, false}, {"1\xff", 0, false}, {"\xe1", 0, false}, {"\xb1", 0, false},
	} {
		checkReadHex(t, row.text, row.n, row.read)
	}
}

// Promise 11.5: rows of one digit, from none to far too many, alone and behind another one.
func TestReadHexLong(t *testing.T) {
	for length := range 40 {
		for _, digit := range "0178abf9" {
			row := strings.Repeat(string(digit), length)
			for _, text := range []string{row, "0" + row, "1" + row, "7" + row, "8" + row, "f" + row, row + "0", row + "f", row + "g", "g" + row, row + "\u00e9"} {
				n, read := wantReadHex(text)
				checkReadHex(t, text, n, read)
			}
		}
	}
	checkReadHex(t, strings.Repeat("0", 1<<20), 0, false)
}

// Promise 11.5: 16 bytes at most are digits, of which runes of more bytes are none.
func TestReadHexRunes(t *testing.T) {
	for _, text := range beyond {
		for zeros := range 17 {
			checkReadHex(t, strings.Repeat("0", zeros)+text, 0, false)
			checkReadHex(t, text+strings.Repeat("1", zeros), 0, false)
			checkRead(t, strings.Repeat("1", zeros)+text, 0, false)
		}
	}
}

// Promise 11.4: what is read is told so: of all short texts, those that are read alone.
func TestReadIsTold(t *testing.T) {
	numbers, hexes := 0, 0
	each([]string{"-", "+", "0", "1", "9", "a", " "}, 5, func(text string) {
		if n, read := Read(text); read {
			numbers++
			same(t, "Num of what is read", Num(n), text)
		}
		if n, read := ReadHex(text); read {
			hexes++
			same(t, "Hex of what is read", Hex(n, len(text)), text)
		}
	})
	same(t, "how many are read", numbers, 1+2*(2+2*3+2*9+2*27)+2*81)
	same(t, "how many are read to the base 16", hexes, 4+16+64+256+1024)
}

// Lists are one's own: who changes what Words gave, up to its capacity, changes nothing else.
func TestWordsAreOnesOwn(t *testing.T) {
	const text = "a bc def"
	want := []string{"a", "bc", "def"}
	first, _ := Words(text)
	second, _ := Words(text)
	for place := range first[:cap(first)] {
		first[:cap(first)][place] = "changed"
	}
	_ = append(first, "more", "and more")
	same(t, "the other list", slices.Equal(second, want), true)
	checkWords(t, text, want, true)
	for length := range len(text) {
		words, are := wantWords(text[:length])
		checkWords(t, text[:length], words, are)
	}
}

// Lists are one's own: Join changes nothing of its list, nor of what stands ahead of it and behind it, and keeps nothing of it.
func TestJoinChangesNothing(t *testing.T) {
	all := []string{"ahead", "a", "", "b c", "behind", "further"}
	before := slices.Clone(all)
	text := Join(all[1:4])
	same(t, "Join of a part", text, "a  b c")
	same(t, "the list and what is beside it", slices.Equal(all, before), true)
	all[1], all[2], all[3] = "x", "y", "z"
	same(t, "Join of the changed part", Join(all[1:4]), "x y z")
	same(t, "what was joined ahead of that", text, "a  b c")
}

// What a text's words are told as hangs on nothing of the bytes that the text was made of.
func TestWordsStay(t *testing.T) {
	raw := []byte("one two 33 7f")
	text := string(raw)
	words, _ := Words(text)
	n, _ := Read(words[2])
	h, _ := ReadHex(words[3])
	clear(raw)
	same(t, "the words", slices.Equal(words, []string{"one", "two", "33", "7f"}), true)
	same(t, "a number", n, 33)
	same(t, "a number to the base 16", h, 127)
}

// The chapter's example.
func TestExample(t *testing.T) {
	checkRead(t, "-05", 0, false)
	checkWords(t, "a b", []string{"a", "b"}, true)
	checkWords(t, "a  b", nil, false)
}

// Nothing is kept from call to call: what is told of a text is the same behind all others.
func TestNothingIsKept(t *testing.T) {
	for range 3 {
		for _, text := range []string{"7", "", "a b", "-", "9223372036854775808", "a ", "7", "-7", "ff", "8000000000000000", "7", "\xff", "a b", "07"} {
			checkAll(t, text)
		}
	}
}
