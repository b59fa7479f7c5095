package phase

import (
	"fmt"
	"math"
	"slices"
	"strings"
	"testing"

	"copyhold/api"
)

const (
	top = math.MaxInt
	low = math.MinInt
)

// The document's phases and events are told here by their numbers and words: the package's own could be wrong.

// plainNames are the names of the phases, from 0 on.
func plainNames() []string {
	return []string{"free", "owned", "deferred", "wiping"}
}

// way is a phase, an event that leads on from there, and where to.
type way struct{ phase, event, to int }

// ways are all that lead on.
func ways() []way {
	return []way{{0, 1, 1}, {1, 2, 2}, {2, 3, 3}, {3, 4, 0}}
}

// near tells if a number is one of those from low to high.
func near(n, low, high int) bool {
	return n >= low && n <= high
}

// plainNext is what Next has to tell.
func plainNext(phase, event int) (int, api.Errno) {
	if !near(phase, 0, 3) || !near(event, 1, 4) {
		return 0, api.ErrArg
	}
	for _, w := range ways() {
		if w.phase == phase && w.event == event {
			return w.to, api.OK
		}
	}
	return 0, api.ErrPhase
}

// plainRun is what Run has to tell.
func plainRun(phase int, events []int) (int, int) {
	led := 0
	for led < len(events) {
		to, wrong := plainNext(phase, events[led])
		if wrong != api.OK {
			break
		}
		phase = to
		led++
	}
	return phase, led
}

// far are numbers that are neither a phase nor an event: the ends, and such as would be one if they were cut, turned, or gone round.
func far() []int {
	return []int{low, low + 1, low + 2, low + 3, low + 4, -1 << 32, 1 - 1<<32, -257, -256, -255, -129, -128, -17, -16, -9, -8, -7, -6, -5, -4, -3, -2, -1, 5, 6, 7, 8, 9, 10, 12, 13, 15, 16, 17, 20, 63, 64, 65, 127, 128, 255, 256, 257, 258, 259, 260, 1 << 16, 1<<16 + 1, 1 << 32, 1<<32 + 1, 1<<32 + 2, 1<<32 + 3, 1<<32 + 4, 1 << 62, 1<<62 + 1, top - 4, top - 3, top - 2, top - 1, top}
}

// around are all phases and events, and what is beside them.
func around() []int {
	return append([]int{0, 1, 2, 3, 4}, far()...)
}

// noPhases are numbers of no phase.
func noPhases() []int {
	return append(far(), 4)
}

// noEvents are numbers of no event.
func noEvents() []int {
	return append(far(), 0)
}

// round are so many events that all lead on, the first one from that phase.
func round(phase, many int) []int {
	events := make([]int, many)
	for i := range events {
		events[i] = (phase+i)%4 + 1
	}
	return events
}

// each goes over all lists of so many of these numbers; a list is the caller's until the next one.
func each(of []int, many int, do func(list []int)) {
	list := make([]int, many)
	var fill func(place int)
	fill = func(place int) {
		if place == many {
			do(list)
			return
		}
		for _, n := range of {
			list[place] = n
			fill(place + 1)
		}
	}
	fill(0)
}

// checkNext holds a Next against what it has to tell.
func checkNext(t *testing.T, phase, event int) {
	t.Helper()
	got, wrong := Next(phase, event)
	want, wantWrong := plainNext(phase, event)
	if got != want || wrong != wantWrong {
		t.Errorf("Next(%d, %d): %d %d, want %d %d", phase, event, got, wrong, want, wantWrong)
	}
}

// checkRun holds a Run against what it has to tell, and its list against what it was.
func checkRun(t *testing.T, phase int, events []int) {
	t.Helper()
	was := slices.Clone(events)
	got, led := Run(phase, events)
	want, wantLed := plainRun(phase, was)
	if got != want || led != wantLed {
		t.Errorf("Run(%d, %s): %d %d, want %d %d", phase, short(was), got, led, want, wantLed)
	}
	if !slices.Equal(events, was) {
		t.Errorf("Run(%d, %s) made the events %s", phase, short(was), short(events))
	}
}

// short is a list as a text, of which the middle is left out if it is long.
func short(l []int) string {
	if len(l) > 12 {
		return fmt.Sprintf("%v .. %d numbers .. %v", l[:6], len(l), l[len(l)-6:])
	}
	return fmt.Sprint(l)
}

// The numbers of the chapter's events and phases.
func TestNumbers(t *testing.T) {
	if got := [4]int{Take, Defer, Wipe, Done}; got != [4]int{1, 2, 3, 4} {
		t.Errorf("the events are %v", got)
	}
	if got := [4]int{api.PFree, api.POwned, api.PDeferred, api.PWiping}; got != [4]int{0, 1, 2, 3} {
		t.Errorf("the phases are %v", got)
	}
}

// Promise 15.1: of each phase one event leads on to the next one, of wiping done to free.
func TestNextLeadsOn(t *testing.T) {
	for _, row := range []struct{ phase, event, want int }{
		{api.PFree, Take, api.POwned},
		{api.POwned, Defer, api.PDeferred},
		{api.PDeferred, Wipe, api.PWiping},
		{api.PWiping, Done, api.PFree},
	} {
		got, wrong := Next(row.phase, row.event)
		if got != row.want || wrong != api.OK {
			t.Errorf("Next(%d, %d): %d %d, want %d %d", row.phase, row.event, got, wrong, row.want, api.OK)
		}
	}
}

// Promise 15.1: all pairs of a phase and an event, and of what is none; the phase told with an error is 0.
func TestNextOfAllPairs(t *testing.T) {
	for _, phase := range around() {
		for _, event := range around() {
			checkNext(t, phase, event)
		}
	}
	for phase := -300; phase <= 300; phase++ {
		for event := -300; event <= 300; event++ {
			checkNext(t, phase, event)
		}
	}
}

// Promise 15.1: ErrPhase of what there is, but does not lead on, and ErrArg ahead of it where both would do.
func TestWhichErrorComesFirst(t *testing.T) {
	for _, row := range []struct {
		what         string
		phase, event int
		want         api.Errno
	}{
		{"take of owned", 1, 1, api.ErrPhase},
		{"take of deferred", 2, 1, api.ErrPhase},
		{"take of wiping", 3, 1, api.ErrPhase},
		{"defer of free", 0, 2, api.ErrPhase},
		{"defer of deferred", 2, 2, api.ErrPhase},
		{"defer of wiping", 3, 2, api.ErrPhase},
		{"wipe of free", 0, 3, api.ErrPhase},
		{"wipe of owned", 1, 3, api.ErrPhase},
		{"wipe of wiping", 3, 3, api.ErrPhase},
		{"done of free", 0, 4, api.ErrPhase},
		{"done of owned", 1, 4, api.ErrPhase},
		{"done of deferred", 2, 4, api.ErrPhase},
		{"no event, which does not lead on from free either", 0, 0, api.ErrArg},
		{"no event, which does not lead on from wiping either", 3, 5, api.ErrArg},
		{"the event behind done, of free", 0, 5, api.ErrArg},
		{"no phase, from which take does not lead on either", 4, 1, api.ErrArg},
		{"no phase, as far from done as wiping is from free", 4, 4, api.ErrArg},
		{"no phase, ahead of free", -1, 1, api.ErrArg},
		{"no phase, and the event that would lead on to free", -1, 0, api.ErrArg},
		{"no phase, and the event that would lead on from there", 4, 5, api.ErrArg},
		{"neither", -1, -1, api.ErrArg},
		{"neither by far", low, top, api.ErrArg},
		{"neither by far, the other way", top, low, api.ErrArg},
	} {
		got, wrong := Next(row.phase, row.event)
		if got != 0 || wrong != row.want {
			t.Errorf("%s: %d %d, want 0 %d", row.what, got, wrong, row.want)
		}
	}
}

// Promise 15.2: the chapter's example.
func TestExample(t *testing.T) {
	phase, led := Run(api.PFree, []int{Take, Defer, Take})
	if phase != api.PDeferred || led != 2 {
		t.Errorf("Run(free, take defer take): %d %d, want %d 2", phase, led, api.PDeferred)
	}
}

// Promise 15.2: some events, and what has to come of them.
func TestRun(t *testing.T) {
	for _, row := range []struct {
		what   string
		phase  int
		events []int
		want   int
		led    int
	}{
		{"all that lead on", 0, []int{1, 2, 3, 4}, 0, 4},
		{"all that lead on from wiping", 3, []int{4, 1, 2, 3}, 3, 4},
		{"five", 1, []int{2, 3, 4, 1, 2}, 2, 5},
		{"nine", 2, []int{3, 4, 1, 2, 3, 4, 1, 2, 3}, 3, 9},
		{"one", 3, []int{4}, 0, 1},
		{"the first one does not lead on", 1, []int{1, 2, 3, 4}, 1, 0},
		{"the first one does not lead on, the others would without it", 1, []int{3, 2, 3, 4}, 1, 0},
		{"one in the midst does not", 0, []int{1, 2, 1, 3, 4}, 2, 2},
		{"one in the midst does not, behind a round", 0, []int{1, 2, 3, 4, 1, 1, 2}, 1, 5},
		{"the same twice", 2, []int{3, 3, 4}, 3, 1},
		{"the last one does not", 0, []int{1, 2, 3, 3}, 3, 3},
		{"0 in the midst", 0, []int{1, 0, 2}, 1, 1},
		{"5 in the midst", 3, []int{4, 5, 1}, 0, 1},
		{"5 behind done", 0, []int{1, 2, 3, 4, 5}, 0, 4},
		{"-1 as the first one", 0, []int{-1, 1}, 0, 0},
		{"the smallest int", 2, []int{3, low, 4}, 3, 1},
		{"the greatest int", 2, []int{3, 4, top, 1}, 0, 2},
		{"a phase that there is not", 4, []int{1, 2, 3, 4}, 4, 0},
		{"a phase that there is not, ahead of free", -1, []int{4, 1, 2}, -1, 0},
		{"a phase that there is not, with 5", 4, []int{5, 1, 2}, 4, 0},
		{"a phase that there is not, with 0", -1, []int{0, 1, 2}, -1, 0},
	} {
		phase, led := Run(row.phase, row.events)
		if phase != row.want || led != row.led {
			t.Errorf("%s: Run(%d, %v) is %d %d, want %d %d", row.what, row.phase, row.events, phase, led, row.want, row.led)
		}
	}
}

// Promise 15.2: no events lead to the phase itself, and are 0, of a phase that there is not as well.
func TestRunOfNoEvents(t *testing.T) {
	for _, phase := range around() {
		for what, events := range map[string][]int{"nil": nil, "an empty list": {}, "an empty list with room": make([]int, 0, 8), "the end of a list": []int{1, 2, 3}[3:], "the front of a list": []int{1, 2, 3, 4}[:0]} {
			got, led := Run(phase, events)
			if got != phase || led != 0 {
				t.Errorf("Run(%d, %s): %d %d, want %d 0", phase, what, got, led, phase)
			}
		}
	}
}

// Promise 15.2: of a phase that there is not, the phase itself and 0, whatever event comes first and would lead on of another phase behind it.
func TestRunOfNoPhase(t *testing.T) {
	for _, phase := range noPhases() {
		for _, first := range around() {
			for from := range 4 {
				events := append([]int{first}, round(from, 5)...)
				got, led := Run(phase, events)
				if got != phase || led != 0 {
					t.Errorf("Run(%d, %v): %d %d, want %d 0", phase, events, got, led, phase)
				}
			}
		}
		for from := range 4 {
			checkRun(t, phase, round(from, 9))
		}
	}
}

// Promise 15.2: all short lists of events, and of what is none, from all phases and what is none.
func TestRunOfAllShortLists(t *testing.T) {
	from := []int{0, 1, 2, 3, 4, -1, 5, low, top}
	for many := range 6 {
		each([]int{1, 2, 3, 4, 0, 5, -1, low, top}, many, func(events []int) {
			for _, phase := range from {
				checkRun(t, phase, events)
			}
		})
	}
	for many := 6; many <= 8; many++ {
		each([]int{1, 2, 3, 4}, many, func(events []int) {
			for phase := range 4 {
				checkRun(t, phase, events)
			}
		})
	}
}

// Promise 15.2: rows of events that all lead on, as they are and with another one at any place.
func TestRunWithOneWrong(t *testing.T) {
	for phase := range 4 {
		for many := range 40 {
			events := round(phase, many)
			got, led := Run(phase, events)
			if got != (phase+many)%4 || led != many {
				t.Errorf("Run(%d, %s): %d %d, want %d %d", phase, short(events), got, led, (phase+many)%4, many)
			}
			for place := range many {
				for _, other := range append(noEvents(), 1, 2, 3, 4) {
					changed := slices.Clone(events)
					changed[place] = other
					checkRun(t, phase, changed)
					checkRun(t, phase, slices.Insert(slices.Clone(events), place, other))
				}
				checkRun(t, phase, slices.Delete(slices.Clone(events), place, place+1))
			}
		}
	}
}

// Promise 15.2: long rows of events.
func TestLongRun(t *testing.T) {
	const many = 1<<20 + 3
	for phase := range 4 {
		events := round(phase, many)
		checkRun(t, phase, events)
		checkRun(t, phase, append(events, events[many-1]))
		for _, place := range []int{0, 1, many / 2, many - 1} {
			changed := slices.Clone(events)
			changed[place] = changed[place]%4 + 1
			got, led := Run(phase, changed)
			if got != (phase+place)%4 || led != place {
				t.Errorf("Run(%d, of %d events) with another one at %d: %d %d", phase, many, place, got, led)
			}
		}
	}
}

// Promise 15.2: only the list's own events count, and the memory around them is left as it is.
func TestRunLeavesTheEvents(t *testing.T) {
	memory := []int{9, 9, 1, 2, 3, 4, 1, 9, 9}
	was := slices.Clone(memory)
	for range 3 {
		phase, led := Run(0, memory[2:5])
		if phase != 3 || led != 3 {
			t.Errorf("Run(0, %v): %d %d, want 3 3", was[2:5], phase, led)
		}
		Run(0, memory[2:7])
		Run(4, memory[2:7])
		Run(2, memory)
		if !slices.Equal(memory, was) {
			t.Fatalf("the events became %v, and were %v", memory, was)
		}
	}
}

// Promise 15.3: the name of each phase, and nothing of no such one.
func TestName(t *testing.T) {
	for phase, want := range plainNames() {
		if got := Name(phase); got != want {
			t.Errorf("Name(%d) is %q, want %q", phase, got, want)
		}
	}
	for _, phase := range noPhases() {
		if got := Name(phase); got != "" {
			t.Errorf("Name(%d) is %q", phase, got)
		}
	}
	for phase := -1000; phase < 0; phase++ {
		if Name(phase) != "" || Name(3-phase) != "" {
			t.Errorf("Name(%d) is %q, Name(%d) is %q", phase, Name(phase), 3-phase, Name(3-phase))
		}
	}
}

// checkFind holds a Find against what it has to tell.
func checkFind(t *testing.T, s string) {
	t.Helper()
	if got, want := Find(s), slices.Index(plainNames(), s); got != want {
		t.Errorf("Find(%q) is %d, want %d", s, got, want)
	}
}

// Promise 15.3: the phase of each name.
func TestFind(t *testing.T) {
	for s, want := range map[string]int{"free": 0, "owned": 1, "deferred": 2, "wiping": 3} {
		if got := Find(s); got != want {
			t.Errorf("Find(%q) is %d, want %d", s, got, want)
		}
		if got := Find(strings.Clone(s)); got != want {
			t.Errorf("Find of another %q is %d, want %d", s, got, want)
		}
	}
}

// Promise 15.3: -1 of what is no name.
func TestFindOfNoName(t *testing.T) {
	for _, s := range []string{"", " ", "Free", "FREE", "fREE", "Owned", "Deferred", "Wiping", "WIPING", " free", "free ", " free ", "  free", "free  ", "\tfree", "free\n", "free\r\n", "free\x00", "\x00free", "fre", "f", "ree", "re", "own", "defer", "wipe", "wip", "ing", "deferre", "referred", "freefree", "freeowned", "ownedfree", "free owned", "owned free", "wiping deferred", "free,owned", "freeowneddeferredwiping", "free owned deferred wiping", "take", "done", "PFree", "PWiping", "0", "1", "3", "4", "-1", "none", "\xff", "free\xff", "fr\xffee", "fr\u00e9e", "\uff46ree", "free\u0301", `"free"`, "\ufefffree", strings.Repeat("free", 1<<18)} {
		if got := Find(s); got != -1 {
			t.Errorf("Find(%.40q) is %d, want -1", s, got)
		}
	}
}

// Promise 15.3: -1 of whatever is near a name: a part of it, a byte more, less or another, other letters, two names in one text.
func TestFindNearNames(t *testing.T) {
	for _, name := range plainNames() {
		checkFind(t, name)
		for from := range len(name) + 1 {
			for to := from; to <= len(name); to++ {
				checkFind(t, name[from:to])
			}
			for b := range 256 {
				checkFind(t, name[:from]+string([]byte{byte(b)})+name[from:])
				if from < len(name) {
					checkFind(t, name[:from]+string([]byte{byte(b)})+name[from+1:])
				}
			}
		}
		for great := range 1 << len(name) {
			letters := []byte(name)
			for place := range letters {
				if great>>place&1 == 1 {
					letters[place] -= 'a' - 'A'
				}
			}
			checkFind(t, string(letters))
		}
		for _, other := range plainNames() {
			for _, between := range []string{"", " ", ",", "\n", "\x00"} {
				checkFind(t, name+between+other)
			}
		}
	}
}

// Promise 15.3: -1 of all texts of up to two bytes.
func TestFindOfShortTexts(t *testing.T) {
	for a := range 256 {
		checkFind(t, string([]byte{byte(a)}))
		for b := range 256 {
			checkFind(t, string([]byte{byte(a), byte(b)}))
		}
	}
}

// Promise 15.3: how many events lead from one phase to the other, told by their number.
func TestAway(t *testing.T) {
	want := [4][4]int{
		{0, 1, 2, 3},
		{3, 0, 1, 2},
		{2, 3, 0, 1},
		{1, 2, 3, 0},
	}
	for from := range 4 {
		for to := range 4 {
			if got := Away(from, to); got != want[from][to] {
				t.Errorf("Away(%d, %d) is %d, want %d", from, to, got, want[from][to])
			}
		}
	}
}

// Promise 15.3: -1, if either is no phase, or both are none, the same one as well.
func TestAwayOfNoPhase(t *testing.T) {
	for _, none := range noPhases() {
		for phase := range 4 {
			if Away(none, phase) != -1 || Away(phase, none) != -1 {
				t.Errorf("Away(%d, %d) is %d, the other way %d, want -1", none, phase, Away(none, phase), Away(phase, none))
			}
		}
		for _, other := range noPhases() {
			if got := Away(none, other); got != -1 {
				t.Errorf("Away(%d, %d) is %d, want -1", none, other, got)
			}
		}
	}
}

// arrives tells if all the events lead on from the one phase, and to the other.
func arrives(from, to int, events []int) bool {
	got, led := Run(from, events)
	return led == len(events) && got == to
}

// least is the least number of events, not below the fewest, by which one phase is reached from another, of all lists of so many there are; 9, if it is more.
func least(from, to, fewest int) int {
	for many := fewest; many < 9; many++ {
		reached := false
		each([]int{Take, Defer, Wipe, Done}, many, func(events []int) {
			reached = reached || arrives(from, to, events)
		})
		if reached {
			return many
		}
	}
	return 9
}

// Promises 15.2 to 15.4: as many events as Away tells lead from one phase to the other, and no fewer.
func TestAsManyEventsAsAwayTells(t *testing.T) {
	for from := range 4 {
		for to := range 4 {
			if got, want := Away(from, to), least(from, to, 0); got != want {
				t.Errorf("Away(%d, %d) is %d, but it is reached by %d", from, to, got, want)
			}
			if events := round(from, Away(from, to)); !arrives(from, to, events) {
				t.Errorf("the events %v do not lead from %d to %d", events, from, to)
			}
		}
	}
}

// Promise 15.4: behind four events a phase comes again, and never with fewer.
func TestComesAgainBehindFour(t *testing.T) {
	for phase := range 4 {
		if got := least(phase, phase, 1); got != 4 {
			t.Errorf("phase %d comes again behind %d events", phase, got)
		}
		at := phase
		for many, event := range round(phase, 40) {
			next, wrong := Next(at, event)
			if wrong != api.OK {
				t.Fatalf("Next(%d, %d): %d", at, event, wrong)
			}
			at = next
			if again := (many+1)%4 == 0; (at == phase) != again {
				t.Errorf("behind %d events, from %d on, the phase is %d", many+1, phase, at)
			}
		}
	}
}

// Promise 15.4: whatever leads on from one phase, of all that may be handed in as events, is one, so that there is no shorter way.
func TestOneLeadsOn(t *testing.T) {
	for phase := range 4 {
		var lead []int
		for _, event := range around() {
			if _, wrong := Next(phase, event); wrong == api.OK {
				lead = append(lead, event)
			}
		}
		if !slices.Equal(lead, []int{phase + 1}) {
			t.Errorf("of phase %d these lead on: %v", phase, lead)
		}
	}
}

// Promise 15.3: each name is found again as its phase, and each is another one.
func TestNamesAreFoundAgain(t *testing.T) {
	seen := map[string]bool{}
	for phase := range 4 {
		name := Name(phase)
		if Find(name) != phase || seen[name] {
			t.Errorf("the name of phase %d, %q, is found as %d", phase, name, Find(name))
		}
		seen[name] = true
	}
	for _, phase := range noPhases() {
		if got := Find(Name(phase)); got != -1 {
			t.Errorf("the name of %d, which is no phase, is found as %d", phase, got)
		}
	}
}

// Promises 15.1 to 15.3: what is told hangs on nothing that was asked before.
func TestAskedAgain(t *testing.T) {
	for range 3 {
		for _, phase := range around() {
			for _, event := range around() {
				checkNext(t, phase, event)
				checkRun(t, phase, []int{event, 1, 2, 3})
			}
			checkFind(t, Name(phase))
		}
		TestAway(t)
		TestName(t)
		TestFind(t)
	}
}
