package quote

import (
	"fmt"
	"math"
	"strings"
	"testing"
)

func same[T comparable](t *testing.T, what string, got, want T) {
	t.Helper()
	if got != want {
		t.Errorf("%s: %v, want %v", what, got, want)
	}
}

// short is a text as its bytes' numbers to the base 16, of which the middle is left out if it is long.
func short(text string) string {
	if len(text) > 40 {
		return fmt.Sprintf("[% x .. %d bytes .. % x]", text[:16], len(text), text[len(text)-16:])
	}
	return fmt.Sprintf("[% x]", text)
}

// one is the text of one byte.
func one(b int) string {
	return string([]byte{byte(b)})
}

// part is what stands for a byte in quotes.
func part(b byte) string {
	if b == 34 || b == 92 {
		return string([]byte{92, b})
	}
	if b < 32 || b > 126 {
		return fmt.Sprintf("%c%c%02x", 92, 'x', b)
	}
	return string([]byte{b})
}

// parts are what stands for each byte in quotes, and the bytes by these.
func parts() ([]string, map[string]byte) {
	var each []string
	standing := map[string]byte{}
	for b := range 256 {
		each = append(each, part(byte(b)))
		standing[each[b]] = byte(b)
	}
	return each, standing
}

// partOf and standing are laid once, and nobody changes them.
var partOf, standing = parts()

// wantText is what Text has to tell.
func wantText(text string) string {
	var all strings.Builder
	all.WriteByte(34)
	for place := range len(text) {
		all.WriteString(partOf[text[place]])
	}
	all.WriteByte(34)
	return all.String()
}

// answer is what Read tells.
type answer struct {
	text string
	end  int
	ok   bool
}

func (a answer) String() string {
	return fmt.Sprint(short(a.text), ", ", a.end, ", ", a.ok)
}

// wantRead is what Read has to tell: what stands behind the quote mark is cut into what stands for bytes.
func wantRead(s string, at int) answer {
	if at < 0 || at >= len(s) || s[at] != 34 {
		return answer{}
	}
	var text []byte
	place := at + 1
	for place < len(s) && s[place] != 34 {
		found := false
		for _, long := range []int{1, 2, 4} {
			if place+long > len(s) {
				break
			}
			b, known := standing[s[place:place+long]]
			if known {
				text = append(text, b)
				place += long
				found = true
				break
			}
		}
		if !found {
			return answer{}
		}
	}
	if place >= len(s) {
		return answer{}
	}
	return answer{string(text), place + 1, true}
}

// checkText holds Text against what has to be told.
func checkText(t *testing.T, text, want string) {
	t.Helper()
	if got := Text(text); got != want {
		t.Errorf("Text of %s: %s, want %s", short(text), short(got), short(want))
	}
}

// checkRead holds Read against what has to be told.
func checkRead(t *testing.T, s string, at int, want answer) {
	t.Helper()
	text, end, ok := Read(s, at)
	if got := (answer{text, end, ok}); got != want {
		t.Errorf("Read of %s at %d: %v, want %v", short(s), at, got, want)
	}
}

// checkWhole holds Whole against what has to be told.
func checkWhole(t *testing.T, s, want string, wantWhole bool) {
	t.Helper()
	text, whole := Whole(s)
	if text != want || whole != wantWhole {
		t.Errorf("Whole of %s: %s, %v, want %s, %v", short(s), short(text), whole, short(want), wantWhole)
	}
}

// checkAt holds Read at a place against what is found there, and what is read against what is told so.
func checkAt(t *testing.T, s string, at int) {
	t.Helper()
	want := wantRead(s, at)
	checkRead(t, s, at, want)
	if want.ok && wantText(want.text) != s[at:want.end] {
		t.Errorf("what is found in %s at %d: %v is told otherwise", short(s), at, want)
	}
}

// checkAll holds all that reads s, at all of its places and beyond them, against what is found there.
func checkAll(t *testing.T, s string) {
	t.Helper()
	for at := -2; at <= len(s)+2; at++ {
		checkAt(t, s, at)
	}
	want := wantRead(s, 0)
	if want.end != len(s) {
		want = answer{}
	}
	checkWhole(t, s, want.text, want.ok)
}

// checkNone holds s, of which no text in quotes begins at the front, against that.
func checkNone(t *testing.T, s string) {
	t.Helper()
	checkRead(t, s, 0, answer{})
	checkWhole(t, s, "", false)
	checkRead(t, "ab"+s, 2, answer{})
}

// around is what stands ahead of a text in quotes and behind it, which nobody is to mind.
var around = []string{"", "a", "\"", "\\", "\"\"", "\\\\", "\\\"", "\"\\", "x", "0a", "\\x", "\\x0", "\\x0a", "\\x0a\"", " ", "\n", "\x00", "\x7f", "\xff", "\u00e9", "some words ", "\"a", "a\"", "\"\\x00\""}

// checkBoth holds that a text is told so, and that this is read, whatever stands ahead and behind it.
func checkBoth(t *testing.T, text, quoted string) {
	t.Helper()
	checkText(t, text, quoted)
	checkWhole(t, quoted, text, true)
	for _, ahead := range around {
		for _, behind := range around {
			checkRead(t, ahead+quoted+behind, len(ahead), answer{text, len(ahead) + len(quoted), true})
		}
		if ahead != "" {
			checkWhole(t, quoted+ahead, "", false)
		}
	}
	checkWhole(t, "a"+quoted, "", false)
	checkWhole(t, " "+quoted, "", false)
	checkWhole(t, "\n"+quoted, "", false)
	checkWhole(t, "\\"+quoted, "", false)
}

// told are texts, with their texts in quotes.
var told = []struct {
	text   string
	quoted string
}{
	{"", `""`},
	{"a", `"a"`},
	{"word", `"word"`},
	{"some words", `"some words"`},
	{" ", `" "`},
	{"  ", `"  "`},
	{"\n", `"\x0a"`},
	{"\x00", `"\x00"`},
	{"\x01", `"\x01"`},
	{"\x09", `"\x09"`},
	{"\x0f", `"\x0f"`},
	{"\x10", `"\x10"`},
	{"\x1a", `"\x1a"`},
	{"\x1e", `"\x1e"`},
	{"\x1f", `"\x1f"`},
	{"\x20", `" "`},
	{"\x21", `"!"`},
	{"\x22", `"\""`},
	{"\x23", `"#"`},
	{"\x5b", `"["`},
	{"\x5c", `"\\"`},
	{"\x5d", `"]"`},
	{"\x7d", `"}"`},
	{"\x7e", `"~"`},
	{"\x7f", `"\x7f"`},
	{"\x80", `"\x80"`},
	{"\x9f", `"\x9f"`},
	{"\xa0", `"\xa0"`},
	{"\xc2", `"\xc2"`},
	{"\xde", `"\xde"`},
	{"\xfa", `"\xfa"`},
	{"\xfe", `"\xfe"`},
	{"\xff", `"\xff"`},
	{"\x12\x34\x56\x78\x9a\xbc\xde\xf0", `"\x124Vx\x9a\xbc\xde\xf0"`},
	{`"`, `"\""`},
	{`""`, `"\"\""`},
	{`"""`, `"\"\"\""`},
	{`\`, `"\\"`},
	{`\\`, `"\\\\"`},
	{`\\\`, `"\\\\\\"`},
	{`"\`, `"\"\\"`},
	{`\"`, `"\\\""`},
	{`\"\`, `"\\\"\\"`},
	{`"\"`, `"\"\\\""`},
	{`a"b\c`, `"a\"b\\c"`},
	{`\x0a`, `"\\x0a"`},
	{`\x41`, `"\\x41"`},
	{`\xff`, `"\\xff"`},
	{`\x`, `"\\x"`},
	{`\x0`, `"\\x0"`},
	{`\\x0a`, `"\\\\x0a"`},
	{`\n`, `"\\n"`},
	{"\\\n", `"\\\x0a"`},
	{"\n\\", `"\x0a\\"`},
	{"\n\"", `"\x0a\""`},
	{"\n0a", `"\x0a0a"`},
	{"\nx0a", `"\x0ax0a"`},
	{"0a\n", `"0a\x0a"`},
	{"x0a", `"x0a"`},
	{"'", `"'"`},
	{"`", "\"`\""},
	{"it's", `"it's"`},
	{"%d %s %%", `"%d %s %%"`},
	{`""a""`, `"\"\"a\"\""`},
	{`"a"`, `"\"a\""`},
	{`"\x0a"`, `"\"\\x0a\""`},
	{`"\"a\""`, `"\"\\\"a\\\"\""`},
	{"a\tb\r\nc", `"a\x09b\x0d\x0ac"`},
	{"\u00e9", `"\xc3\xa9"`},
	{"\u20ac", `"\xe2\x82\xac"`},
	{"\U0001f600", `"\xf0\x9f\x98\x80"`},
	{"\ufffd", `"\xef\xbf\xbd"`},
	{"\ufeffa", `"\xef\xbb\xbfa"`},
	{"\u2028", `"\xe2\x80\xa8"`},
	{"\xc3", `"\xc3"`},
	{"\xc3a", `"\xc3a"`},
	{"a\xc3", `"a\xc3"`},
	{"\xe2\x82", `"\xe2\x82"`},
	{"\xed\xa0\x80", `"\xed\xa0\x80"`},
	{"\xc0\xa2", `"\xc0\xa2"`},
	{"\xf4\x90\x80\x80", `"\xf4\x90\x80\x80"`},
	{"\xff\xff", `"\xff\xff"`},
	{"a\xffb\"c\x80\\", `"a\xffb\"c\x80\\"`},
	{"\a\b\f\v", `"\x07\x08\x0c\x0b"`},
}

// Promises 12.1 to 12.4: texts as they are in quotes, which are read, whatever stands around them.
func TestText(t *testing.T) {
	for _, row := range told {
		checkBoth(t, row.text, row.quoted)
	}
}

// Promises 12.1 to 12.4: each of all bytes, alone, and as the first, a middle and the last byte of others.
func TestBytes(t *testing.T) {
	longs := map[int]int{}
	for b := range 256 {
		quoted := partOf[b]
		longs[len(quoted)]++
		byItself := one(b)
		checkBoth(t, byItself, `"`+quoted+`"`)
		checkBoth(t, byItself+byItself, `"`+quoted+quoted+`"`)
		checkBoth(t, byItself+"bc", `"`+quoted+`bc"`)
		checkBoth(t, "ab"+byItself+"cd", `"ab`+quoted+`cd"`)
		checkBoth(t, "ab"+byItself, `"ab`+quoted+`"`)
		checkBoth(t, `"`+byItself+`\`, `"\"`+quoted+`\\"`)
		checkBoth(t, `\`+byItself+`"`, `"\\`+quoted+`\""`)
		checkBoth(t, "\x00"+byItself+"\xff", `"\x00`+quoted+`\xff"`)
		checkBoth(t, `\x`+byItself+"0", `"\\x`+quoted+`0"`)
	}
	same(t, "how many bytes stand for themselves", longs[1], 93)
	same(t, "how many bytes have a backslash ahead", longs[2], 2)
	same(t, "how many bytes are told by two digits", longs[4], 161)
}

// Promises 12.1 to 12.4: all texts of two bytes.
func TestTwoBytes(t *testing.T) {
	for first := range 256 {
		for second := range 256 {
			text := one(first) + one(second)
			quoted := `"` + partOf[first] + partOf[second] + `"`
			checkText(t, text, quoted)
			checkWhole(t, quoted, text, true)
			checkRead(t, quoted, 0, answer{text, len(quoted), true})
			checkAll(t, text)
			checkAll(t, `"`+text)
			checkAll(t, `"`+text+`"`)
		}
	}
}

// Promise 12.2: at any place of a text, or beyond it.
func TestReadPlaces(t *testing.T) {
	for _, row := range []struct {
		s    string
		at   int
		want answer
	}{
		{`"a"`, 0, answer{"a", 3, true}},
		{`"a"`, 1, answer{}},
		{`"a"`, 2, answer{}},
		{`"a"`, 3, answer{}},
		{`"a"`, 4, answer{}},
		{`""`, 0, answer{"", 2, true}},
		{`""`, 1, answer{}},
		{`""`, 2, answer{}},
		{`""`, 3, answer{}},
		{`"`, 0, answer{}},
		{`"`, 1, answer{}},
		{`a`, 0, answer{}},
		{`a`, 1, answer{}},
		{`a""`, 0, answer{}},
		{`a""`, 1, answer{"", 3, true}},
		{`a""`, 2, answer{}},
		{`ab"cd"ef`, 0, answer{}},
		{`ab"cd"ef`, 1, answer{}},
		{`ab"cd"ef`, 2, answer{"cd", 6, true}},
		{`ab"cd"ef`, 3, answer{}},
		{`ab"cd"ef`, 4, answer{}},
		{`ab"cd"ef`, 5, answer{}},
		{`ab"cd"ef`, 6, answer{}},
		{`ab"cd"ef`, 7, answer{}},
		{`ab"cd"ef`, 8, answer{}},
		{`ab"cd"ef`, 9, answer{}},
		{`"a""b"`, 0, answer{"a", 3, true}},
		{`"a""b"`, 2, answer{"", 4, true}},
		{`"a""b"`, 3, answer{"b", 6, true}},
		{`"a""b"`, 5, answer{}},
		{`"a" "b"`, 0, answer{"a", 3, true}},
		{`"a" "b"`, 2, answer{" ", 5, true}},
		{`"a" "b"`, 3, answer{}},
		{`"a" "b"`, 4, answer{"b", 7, true}},
		{`"a" "b"`, 6, answer{}},
		{`""""`, 0, answer{"", 2, true}},
		{`""""`, 1, answer{"", 3, true}},
		{`""""`, 2, answer{"", 4, true}},
		{`""""`, 3, answer{}},
		{`"\"""\\"`, 0, answer{`"`, 4, true}},
		{`"\"""\\"`, 1, answer{}},
		{`"\"""\\"`, 2, answer{"", 4, true}},
		{`"\"""\\"`, 3, answer{"", 5, true}},
		{`"\"""\\"`, 4, answer{`\`, 8, true}},
		{`"\"""\\"`, 7, answer{}},
		{`"a\"b"`, 0, answer{`a"b`, 6, true}},
		{`"a\"b"`, 3, answer{"b", 6, true}},
		{`"a\\"b"`, 0, answer{`a\`, 5, true}},
		{`"a\\"b"`, 4, answer{"b", 7, true}},
		{`\""`, 1, answer{"", 3, true}},
		{`\"a"`, 1, answer{"a", 4, true}},
		{"\n\xff\"\\x0a\"\n\xff", 2, answer{"\n", 8, true}},
		{"\n\xff\"\\x0a\"\n\xff", 7, answer{}},
		{`lay "a b" 3`, 4, answer{"a b", 9, true}},
	} {
		checkRead(t, row.s, row.at, row.want)
	}
	for _, s := range []string{"", `"`, `""`, `"a"`, `"ab"`, `"\x0a"`, "abc", strings.Repeat(`""`, 100)} {
		for _, at := range []int{math.MinInt, math.MinInt + 1, math.MinInt + len(s), -1 << 62, -1 << 40, -1 << 32, -1 << 20, -256, -len(s) - 1, -3, -2, -1, len(s), len(s) + 1, len(s) + 2, 256, 1 << 20, 1 << 32, 1 << 40, 1 << 62, math.MaxInt - len(s), math.MaxInt - 1, math.MaxInt} {
			if at >= 0 && at < len(s) {
				continue
			}
			checkRead(t, s, at, answer{})
		}
	}
}

// Promises 12.2 and 12.3: where the last quote mark is wanting, wherever the text ends.
func TestNoLastMark(t *testing.T) {
	for _, row := range told {
		for end := range len(row.quoted) {
			checkNone(t, row.quoted[:end])
		}
	}
	for _, s := range []string{"", `"`, `"a`, `"\`, `"\\`, `"\"`, `"\x`, `"\x0`, `"\x0a`, `"\x7`, `"\xf`, `"a\`, `"a\\`, `"a\"`, `"a\x`, `"a\x0`, `"a\x0a`, `"a\\\`, `"a\\\"`, `"\\\\`, `"\"\`, `"\"\"`, `"\"\\`, "\"\n", "\"\xff"} {
		checkNone(t, s)
	}
}

// Promises 12.2 and 12.3: where no quote mark stands.
func TestNoFirstMark(t *testing.T) {
	for b := range 256 {
		if b == 34 {
			continue
		}
		for _, behind := range []string{"", `"`, `""`, `a"`, `"a"`, `\"`, one(b)} {
			checkNone(t, one(b)+behind)
		}
	}
}

// Promises 12.2 and 12.3: a backslash ahead of any byte; it is read only ahead of a quote mark and another one.
func TestBackslash(t *testing.T) {
	for b := range 256 {
		for _, ahead := range []string{"", "a", `\\`, `\"`, `\x0a`} {
			for _, behind := range []string{`"`, `a"`, `0a"`, `\\"`, `\""`, `\x00"`, `""`, `"a"`, `" `, "", "a", `\`, "x", "x0a"} {
				s := `"` + ahead + `\` + one(b) + behind
				checkAll(t, s)
				if b != 34 && b != 92 && b != 120 {
					checkNone(t, s)
				}
			}
		}
	}
	checkRead(t, `"\""`, 0, answer{`"`, 4, true})
	checkRead(t, `"\\"`, 0, answer{`\`, 4, true})
}

// Promises 12.2 and 12.3: any two bytes behind a backslash and an x; bytes that are told otherwise are not read so.
func TestTwoDigits(t *testing.T) {
	const digits = "0123456789abcdef"
	read := 0
	for first := range 256 {
		for second := range 256 {
			high, low := strings.Index(digits, one(first)), strings.Index(digits, one(second))
			b := high*16 + low
			s := `"\x` + one(first) + one(second) + `"`
			if high < 0 || low < 0 || b >= 32 && b <= 126 {
				checkNone(t, s)
				checkNone(t, `"a`+s[1:])
				checkNone(t, s[:5]+`b"`)
				continue
			}
			read++
			checkRead(t, s, 0, answer{one(b), 6, true})
			checkWhole(t, s, one(b), true)
			checkRead(t, `"a`+s[1:5]+`b"`, 0, answer{"a" + one(b) + "b", 8, true})
		}
	}
	same(t, "how many bytes are read by two digits", read, 161)
}

// Promises 12.2 and 12.3: what would be another way to tell a byte is not read, however near it comes.
func TestOtherWays(t *testing.T) {
	for _, inside := range []string{
		`\x20`, `\x22`, `\x5c`, `\x41`, `\x61`, `\x7e`, `\x30`, `\x78`, `\x21`, `\x5b`, `\x5d`, `\x7d`,
		`\x0A`, `\xA0`, `\xFF`, `\xFf`, `\xfF`, `\x0F`, `\xF0`, `\x1A`, `\x7F`, `\xAb`, `\xaB`,
		`\X0a`, `\X00`, `\0a`, `\00`, `\0`, `\000`, `\012`, `\377`, `\n`, `\t`, `\r`, `\a`, `\b`, `\f`, `\v`, `\e`, `\'`, `\ `, `\/`, `\?`, `\a0`, `\u000a`, `\u00e9`, `\U0000000a`, `\u{a}`,
		`\x`, `\x0`, `\xa`, `\xg0`, `\x0g`, `\x/0`, `\x0/`, `\x:0`, `\x0:`, "\\x`0", "\\x0`", `\x 0`, `\x0 `, `\x 0a`, `\x-1`, `\x+1`, `\x_0`, `\x{0a}`, `\x0x`, `\xx0`, `\x\x0a`, `\x0\x0a`, `\x0\`, `\x\\`, `\x\"`, `\x0\"`,
		"\x00", "\x01", "\t", "\n", "\r", "\x1b", "\x1f", "\x7f", "\x80", "\x9f", "\xa0", "\xc3", "\xff", "\u00e9", "\u20ac", "\U0001f600", "\ufffd", "\ufeff", "\xe2\x82", "\xed\xa0\x80", "\xff\xff",
		"\\\n", "\\\x00", "\\\x7f", "\\\x80", "\\\xff", "\\\u00e9", "\\x\n0", "\\x0\n", "\\x\xff\xff", "\\x\u0660\u0660", "\\x\uff10\uff10", "\\\u2028",
	} {
		for _, ahead := range []string{"", "a", `\"`, `\\`, `\x0a`, "some words of many bytes, "} {
			for _, behind := range []string{"", "g", "~", `\"`, `\\`, `\x0a`, " and many bytes more"} {
				checkNone(t, `"`+ahead+inside+behind+`"`)
				checkNone(t, `"`+ahead+inside+behind+`""`)
				checkNone(t, `"`+ahead+inside+behind)
			}
		}
	}
}

// Promise 12.3: one byte more, or one less.
func TestWhole(t *testing.T) {
	checkWhole(t, "", "", false)
	checkWhole(t, `"`, "", false)
	checkWhole(t, `""`, "", true)
	checkWhole(t, `"""`, "", false)
	checkWhole(t, `""""`, "", false)
	checkWhole(t, `"a""`, "", false)
	checkWhole(t, `"a""b"`, "", false)
	checkWhole(t, `"a\"`, "", false)
	checkWhole(t, `"a\\"`, `a\`, true)
	checkWhole(t, "\"a\"\n", "", false)
	for _, row := range told {
		for b := range 256 {
			checkWhole(t, one(b)+row.quoted, "", false)
			checkWhole(t, row.quoted+one(b), "", false)
		}
		checkWhole(t, row.quoted[1:], "", false)
		checkWhole(t, row.quoted[:len(row.quoted)-1], "", false)
		checkWhole(t, row.quoted+row.quoted, "", false)
	}
}

// Promises 12.2 to 12.4: all short texts of bytes that tell, read at all places and beyond.
func TestShortTexts(t *testing.T) {
	var each func(kinds []string, text string, left int)
	each = func(kinds []string, text string, left int) {
		checkAll(t, text)
		checkText(t, text, wantText(text))
		if left == 0 {
			return
		}
		for _, kind := range kinds {
			each(kinds, text+kind, left-1)
		}
	}
	each([]string{`"`, `\`, "a"}, "", 7)
	each([]string{`"`, `\`, "x", "0", "1"}, "", 6)
	each([]string{`\x`, "2", "7", "e", "f", `"`}, `"`, 5)
	each([]string{`"`, `\`, "x", "0", "9", "a", "f", "g", "A", " ", "~", "\n", "\x7f", "\xff"}, `"`, 3)
}

// luck is a row of numbers that are the same in each run.
type luck uint64

// below is the next one of them, from 0 to n-1.
func (l *luck) below(n int) int {
	*l = *l*6364136223846793005 + 1442695040888963407
	return int(uint64(*l) >> 33 % uint64(n))
}

// lucky is a text of so many bytes, each any of a kind's.
func (l *luck) lucky(kind string, long int) string {
	text := make([]byte, long)
	for place := range text {
		text[place] = kind[l.below(len(kind))]
	}
	return string(text)
}

// allBytes is the text of all bytes, from 0 to 255.
func allBytes() string {
	text := make([]byte, 256)
	for b := range text {
		text[b] = byte(b)
	}
	return string(text)
}

// Promises 12.1 to 12.4: texts by luck, told and read with others ahead and behind, and with one byte changed, put in or taken out.
func TestLuckyTexts(t *testing.T) {
	l := luck(12)
	kinds := []string{allBytes(), "ab", "\"\\", "\"\\a", "\\x0a", "\"\\x01af\n\xff", "\x1f !\"#[\\]~\x7f\x80"}
	for range 12000 {
		text := l.lucky(kinds[l.below(len(kinds))], l.below(20))
		quoted := wantText(text)
		checkText(t, text, quoted)
		checkWhole(t, quoted, text, true)
		ahead := l.lucky(kinds[l.below(len(kinds))], l.below(6))
		behind := l.lucky(kinds[l.below(len(kinds))], l.below(6))
		checkRead(t, ahead+quoted+behind, len(ahead), answer{text, len(ahead) + len(quoted), true})
		checkAll(t, ahead+quoted+behind)
		kind := kinds[l.below(len(kinds))]
		place := l.below(len(quoted))
		another := one(int(kind[l.below(len(kind))]))
		checkAll(t, quoted[:place]+another+quoted[place+1:])
		checkAll(t, quoted[:place]+another+quoted[place:])
		checkAll(t, quoted[:place]+quoted[place+1:])
	}
}

// Promises 12.2 to 12.4: texts by luck of bytes that tell, most of which are not told so.
func TestLuckyBytes(t *testing.T) {
	l := luck(34)
	for _, kind := range []string{"\"\\x01af", "\"\\ab", "\"\\\\\\x0123456789abcdefABCDEFg", "\"a \n\xff"} {
		for range 15000 {
			s := `"` + l.lucky(kind, l.below(12))
			checkAll(t, s)
			checkAll(t, s+`"`)
		}
	}
}

// Promises 12.1 to 12.4: many texts in quotes side by side, each read behind the one ahead.
func TestSideBySide(t *testing.T) {
	for _, between := range []string{"", " ", "\n", "a", `\`} {
		var all strings.Builder
		for _, row := range told {
			all.WriteString(row.quoted + between)
		}
		at := 0
		for _, row := range told {
			end := at + len(row.quoted)
			checkRead(t, all.String(), at, answer{row.text, end, true})
			at = end + len(between)
		}
		same(t, "the place behind all", at, all.Len())
		checkAll(t, all.String())
	}
}

// Promises 12.1 to 12.4: texts of many bytes, with a fault at a few places, or none.
func TestLongTexts(t *testing.T) {
	l := luck(56)
	for _, long := range []int{127, 128, 255, 256, 257, 1000, 4095, 4096, 4097, 65536, 100000, 1 << 18} {
		for _, kind := range []string{"a", `"`, `\`, "\n", "\xff", allBytes()} {
			text := l.lucky(kind, long)
			quoted := wantText(text)
			checkText(t, text, quoted)
			checkWhole(t, quoted, text, true)
			checkRead(t, "\x00\xff\""+quoted+"\"a", 3, answer{text, len(quoted) + 3, true})
			checkNone(t, quoted[:len(quoted)-1])
		}
	}
	text := strings.Repeat(allBytes(), 40)
	quoted := wantText(text)
	for _, place := range []int{0, 1, 2, 255, 5000, len(text) - 1, len(text)} {
		ahead, behind := wantText(text[:place]), wantText(text[place:])
		for _, fault := range []string{"\n", "\x7f", "\xff", `\x41`, `\x0A`, `\n`, `\xg0`} {
			checkNone(t, ahead[:len(ahead)-1]+fault+behind[1:])
		}
		s := ahead[:len(ahead)-1] + behind
		checkRead(t, s, 0, answer{text[:place], len(ahead), true})
		checkWhole(t, s, "", false)
	}
	checkWhole(t, quoted, text, true)
}

// Promise 12.4: what is told again and again is read again and again.
func TestAgain(t *testing.T) {
	text := "a\"\\\n\xff"
	layers := []string{text}
	for range 10 {
		layers = append(layers, Text(layers[len(layers)-1]))
	}
	for layer := len(layers) - 1; layer > 0; layer-- {
		same(t, fmt.Sprint("layer ", layer), layers[layer], wantText(layers[layer-1]))
		checkWhole(t, layers[layer], layers[layer-1], true)
	}
}

// Promises 12.1 to 12.3: what a call tells hangs on nothing that was told or read before.
func TestNothingKept(t *testing.T) {
	for range 3 {
		for _, row := range told {
			checkText(t, row.text, row.quoted)
			checkNone(t, row.quoted[:len(row.quoted)-1])
			checkRead(t, row.quoted, 0, answer{row.text, len(row.quoted), true})
			checkRead(t, row.quoted, len(row.quoted), answer{})
			checkWhole(t, row.quoted, row.text, true)
		}
	}
}
