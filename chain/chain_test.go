package chain

import (
	"math"
	"slices"
	"testing"
)

// greatest is the most lists and nodes that may be, told here by its number: the package's own could be wrong.
const greatest = 1 << 20

// plain is what a chain has to be: its lists, each with its nodes in order, and how many nodes there are.
type plain struct {
	lists [][]int
	nodes int
}

func empty(lists, nodes int) plain {
	return plain{lists: make([][]int, lists), nodes: nodes}
}

func (p plain) copied() plain {
	other := empty(len(p.lists), p.nodes)
	for list, nodes := range p.lists {
		other.lists[list] = slices.Clone(nodes)
	}
	return other
}

func (p plain) hasList(list int) bool {
	return 0 <= list && list < len(p.lists)
}

func (p plain) hasNode(node int) bool {
	return 0 <= node && node < p.nodes
}

// find tells the list of a node and its place there; -1 and -1, if it is in none.
func (p plain) find(node int) (int, int) {
	for list, nodes := range p.lists {
		if place := slices.Index(nodes, node); place >= 0 {
			return list, place
		}
	}
	return -1, -1
}

// at is the node at that place of the list; -1, if there is no such list or place.
func (p plain) at(list, place int) int {
	if !p.hasList(list) || place < 0 || place >= len(p.lists[list]) {
		return -1
	}
	return p.lists[list][place]
}

func (p plain) of(list int) []int {
	if !p.hasList(list) {
		return nil
	}
	return p.lists[list]
}

func (p plain) add(list, node int) bool {
	in, _ := p.find(node)
	if !p.hasList(list) || !p.hasNode(node) || in >= 0 {
		return false
	}
	p.lists[list] = append(p.lists[list], node)
	return true
}

func (p plain) drop(node int) bool {
	list, place := p.find(node)
	if list < 0 {
		return false
	}
	p.lists[list] = slices.Delete(p.lists[list], place, place+1)
	return true
}

func (p plain) move(list, node int) bool {
	in, _ := p.find(node)
	if !p.hasList(list) || in < 0 {
		return false
	}
	p.drop(node)
	return p.add(list, node)
}

func (p plain) join(to, from int) bool {
	if !p.hasList(to) || !p.hasList(from) || to == from {
		return false
	}
	p.lists[to] = append(p.lists[to], p.lists[from]...)
	p.lists[from] = nil
	return true
}

func same[T comparable](t *testing.T, what string, got, want T) {
	t.Helper()
	if got != want {
		t.Errorf("%s: %v, want %v", what, got, want)
	}
}

func sameList(t *testing.T, what string, got, want []int) {
	t.Helper()
	if !slices.Equal(got, want) {
		t.Errorf("%s: %v, want %v", what, got, want)
	}
}

// beyond are numbers that neither a list nor a node of so many has.
func beyond(count int) []int {
	return []int{-1, -2, -count - 1, -greatest, math.MinInt, math.MinInt + 1, count, count + 1, count + greatest, 2*greatest + 1, 1 << 40, math.MaxInt - 1, math.MaxInt}
}

// checkChain holds a chain against what it has to be, by each call that tells it.
func checkChain(t *testing.T, what string, c *Chain, want plain) {
	t.Helper()
	for list := -1; list <= len(want.lists); list++ {
		checkList(t, what, c, want, list)
	}
	for node := -1; node <= want.nodes; node++ {
		checkNode(t, what, c, want, node)
	}
}

func checkList(t *testing.T, what string, c *Chain, want plain, list int) {
	t.Helper()
	nodes := want.of(list)
	sameList(t, what+": List", c.List(list), nodes)
	same(t, what+": Len", c.Len(list), len(nodes))
	same(t, what+": First", c.First(list), want.at(list, 0))
	same(t, what+": Last", c.Last(list), want.at(list, len(nodes)-1))
}

func checkNode(t *testing.T, what string, c *Chain, want plain, node int) {
	t.Helper()
	list, place := want.find(node)
	same(t, what+": Of", c.Of(node), list)
	same(t, what+": Next", c.Next(node), want.at(list, place+1))
	same(t, what+": Back", c.Back(node), want.at(list, place-1))
}

// checkBeyond asks a chain for lists and nodes that it has not.
func checkBeyond(t *testing.T, what string, c *Chain, want plain) {
	t.Helper()
	for _, list := range beyond(len(want.lists)) {
		checkList(t, what, c, want, list)
	}
	for _, node := range beyond(want.nodes) {
		checkNode(t, what, c, want, node)
	}
}

// made is a chain that has just these lists.
func made(t *testing.T, want plain) *Chain {
	t.Helper()
	c := New(len(want.lists), want.nodes)
	if c == nil {
		t.Fatalf("New(%d, %d) is nil", len(want.lists), want.nodes)
	}
	for list, nodes := range want.lists {
		for _, node := range nodes {
			same(t, "Add", c.Add(list, node), true)
		}
	}
	return c
}

// of is what a chain of so many nodes has to be with these lists.
func of(nodes int, lists ...[]int) plain {
	return plain{lists: lists, nodes: nodes}
}

// arrangements are all that a chain of so many lists and nodes may be.
func arrangements(lists, nodes int) []plain {
	all := []plain{empty(lists, nodes)}
	for node := range nodes {
		for _, p := range all[:len(all):len(all)] {
			for list := range p.lists {
				for place := range len(p.lists[list]) + 1 {
					other := p.copied()
					other.lists[list] = slices.Insert(other.lists[list], place, node)
					all = append(all, other)
				}
			}
		}
	}
	return all
}

// call is one that changes a chain, with its numbers: which one it is, a list, and a node, or another list.
type call struct {
	kind        string
	list, other int
}

// do does the call to a chain and to what it has to be, and holds both answers against each other.
func (o call) do(t *testing.T, c *Chain, want plain) {
	t.Helper()
	var got, may bool
	switch o.kind {
	case "Add":
		got, may = c.Add(o.list, o.other), want.add(o.list, o.other)
	case "Drop":
		got, may = c.Drop(o.other), want.drop(o.other)
	case "Move":
		got, may = c.Move(o.list, o.other), want.move(o.list, o.other)
	case "Join":
		got, may = c.Join(o.list, o.other), want.join(o.list, o.other)
	}
	if got != may {
		t.Errorf("%v: %v, want %v", o, got, may)
	}
}

// calls are all calls with these lists and nodes.
func calls(lists, nodes []int) []call {
	var all []call
	for _, node := range nodes {
		all = append(all, call{"Drop", 0, node})
	}
	for _, list := range lists {
		for _, node := range nodes {
			all = append(all, call{"Add", list, node}, call{"Move", list, node})
		}
		for _, other := range lists {
			all = append(all, call{"Join", list, other})
		}
	}
	return all
}

// upTo are the numbers from 0 to below the count, and one at each side of them.
func upTo(count int) []int {
	list := []int{-1}
	for n := range count + 1 {
		list = append(list, n)
	}
	return list
}

// sizes are numbers of lists and of nodes: none of both, of one, and several.
func sizes() [][2]int {
	return [][2]int{{0, 0}, {0, 1}, {0, 5}, {1, 0}, {5, 0}, {1, 1}, {1, 6}, {6, 1}, {2, 2}, {3, 7}, {7, 3}, {64, 64}}
}

// Promise 5.1: lists without nodes, as many as are asked for, and as many nodes.
func TestNewIsWithoutNodes(t *testing.T) {
	for _, size := range sizes() {
		want := empty(size[0], size[1])
		c := made(t, want)
		checkChain(t, "a new chain", c, want)
		checkBeyond(t, "a new chain", c, want)
		for _, o := range calls(upTo(size[0]), upTo(min(size[1], 4))) {
			fresh, behind := New(size[0], size[1]), want.copied()
			o.do(t, fresh, behind)
			checkChain(t, "a new chain behind a call", fresh, behind)
		}
	}
}

// Promise 5.1: as many of both as may be, and no more; not below 0.
func TestNewOfGreatestAndWrongSizes(t *testing.T) {
	right := []int{0, 1, 2, greatest - 1, greatest}
	wrong := []int{-1, -2, -64, -greatest, math.MinInt, greatest + 1, greatest + 2, 2 * greatest, 1 << 32, 1 << 40, 1 << 62, math.MaxInt}
	for _, a := range right {
		for _, b := range right {
			c := New(a, b)
			if c == nil {
				t.Fatalf("New(%d, %d) is nil", a, b)
			}
			same(t, "Add to the last list of the last node", c.Add(a-1, b-1), a > 0 && b > 0)
			same(t, "Add to a list beyond", c.Add(a, 0), false)
			same(t, "Add of a node beyond", c.Add(0, b), false)
		}
		for _, b := range wrong {
			if New(a, b) != nil || New(b, a) != nil {
				t.Errorf("New of %d and %d is a chain", a, b)
			}
		}
	}
	for _, a := range wrong {
		for _, b := range wrong {
			if New(a, b) != nil {
				t.Errorf("New(%d, %d) is a chain", a, b)
			}
		}
	}
}

// Promise 5.1: chains have nothing in common.
func TestChainsAreTheirOwn(t *testing.T) {
	a, b := New(2, 4), New(2, 4)
	a.Add(1, 3)
	a.Add(1, 0)
	checkChain(t, "the other one", b, empty(2, 4))
	b.Add(0, 0)
	b.Add(1, 2)
	b.Join(0, 1)
	checkChain(t, "the first one", a, of(4, nil, []int{3, 0}))
	a.Drop(3)
	checkChain(t, "the other one", b, of(4, []int{0, 2}, nil))
}

// Promise 5.2: a node that is added is the last one of its list.
func TestAddMakesTheLastOne(t *testing.T) {
	for _, order := range [][]int{{0, 1, 2, 3, 4, 5}, {5, 4, 3, 2, 1, 0}, {3, 0, 5, 1, 4, 2}} {
		for lists := 1; lists <= 4; lists++ {
			c, want := New(lists, 6), empty(lists, 6)
			for n, node := range order {
				same(t, "Add", c.Add(n%lists, node), true)
				same(t, "Last behind Add", c.Last(n%lists), node)
				same(t, "Of behind Add", c.Of(node), n%lists)
				want.add(n%lists, node)
				checkChain(t, "behind Add", c, want)
			}
		}
	}
}

// Promise 5.2: a node that is in a list, be it another one or the same one, is not added, and nothing changes.
func TestAddOfWhatIsInAList(t *testing.T) {
	want := of(5, []int{4, 0}, []int{2}, nil)
	c := made(t, want)
	for _, node := range []int{4, 0, 2} {
		for list := range 3 {
			same(t, "Add of what is in a list", c.Add(list, node), false)
			checkChain(t, "behind Add of what is in a list", c, want)
		}
	}
}

// Promise 5.2: Drop of the first node, of the last one, of one between, and of the only one; what is in none is not dropped again.
func TestDrop(t *testing.T) {
	want := of(7, []int{6, 1, 4, 3}, []int{0}, []int{5, 2})
	for node := range 7 {
		c, behind := made(t, want), want.copied()
		same(t, "Drop", c.Drop(node), true)
		behind.drop(node)
		same(t, "Of behind Drop", c.Of(node), -1)
		same(t, "Next behind Drop", c.Next(node), -1)
		same(t, "Back behind Drop", c.Back(node), -1)
		checkChain(t, "behind Drop", c, behind)
		same(t, "Drop again", c.Drop(node), false)
		checkChain(t, "behind Drop again", c, behind)
	}
}

// Promise 5.2: all nodes of a list are dropped, in each order.
func TestDropOfAll(t *testing.T) {
	for _, order := range arrangements(1, 4) {
		want := of(5, []int{2, 0, 3, 1}, []int{4})
		c := made(t, want)
		for _, node := range order.lists[0] {
			same(t, "Drop", c.Drop(node), true)
			want.drop(node)
			checkChain(t, "behind Drop", c, want)
		}
	}
}

// Promise 5.2: a node that was dropped is added again, to its own list or to another one, as the last one.
func TestAddBehindDrop(t *testing.T) {
	want := of(6, []int{5, 1, 3}, []int{0}, nil)
	for _, node := range []int{5, 1, 3, 0} {
		for list := range 3 {
			c, behind := made(t, want), want.copied()
			same(t, "Drop", c.Drop(node), true)
			same(t, "Add behind Drop", c.Add(list, node), true)
			same(t, "Add again", c.Add(list, node), false)
			behind.drop(node)
			behind.add(list, node)
			checkChain(t, "behind both", c, behind)
		}
	}
}

// Promises 5.2 and 5.5: lists and nodes below 0 and beyond, alone and with ones that are there, change nothing.
func TestWrongListsAndNodes(t *testing.T) {
	for _, size := range sizes() {
		want := empty(size[0], size[1])
		for node := range size[1] {
			want.add(node%3, node) // where there are fewer lists than three, some nodes are in none
		}
		c := made(t, want)
		lists, nodes := beyond(size[0]), beyond(size[1])
		for _, list := range lists {
			for node := range min(size[1], 4) {
				call{"Add", list, node}.do(t, c, want)
				call{"Move", list, node}.do(t, c, want)
			}
			for other := range min(size[0], 4) {
				call{"Join", list, other}.do(t, c, want)
				call{"Join", other, list}.do(t, c, want)
			}
			same(t, "Join of what is not there", c.Join(list, list), false)
		}
		for _, node := range nodes {
			for list := range min(size[0], 4) {
				call{"Add", list, node}.do(t, c, want)
				call{"Move", list, node}.do(t, c, want)
			}
			same(t, "Drop of what is not there", c.Drop(node), false)
			for _, list := range lists {
				same(t, "Add of what is not there", c.Add(list, node), false)
				same(t, "Move of what is not there", c.Move(list, node), false)
				same(t, "Join of what is not there", c.Join(list, node), false)
			}
		}
		checkChain(t, "behind wrong calls", c, want)
		checkBeyond(t, "behind wrong calls", c, want)
	}
}

// Promise 5.3: what is told of lists and nodes: where there are some, and where there are none.
func TestWhatIsTold(t *testing.T) {
	c := made(t, of(6, []int{4, 1, 5}, nil, []int{0}))
	for node, want := range [][3]int{{2, -1, -1}, {0, 5, 4}, {-1, -1, -1}, {-1, -1, -1}, {0, 1, -1}, {0, -1, 1}} {
		same(t, "Of, Next and Back", [3]int{c.Of(node), c.Next(node), c.Back(node)}, want)
	}
	for list, want := range [][3]int{{4, 5, 3}, {-1, -1, 0}, {0, 0, 1}} {
		same(t, "First, Last and Len", [3]int{c.First(list), c.Last(list), c.Len(list)}, want)
	}
	sameList(t, "List", c.List(0), []int{4, 1, 5})
	sameList(t, "List", c.List(1), nil)
	sameList(t, "List", c.List(2), []int{0})
	for _, none := range []int{-1, 3, math.MinInt, math.MaxInt} {
		same(t, "First, Last and Len of no list", [3]int{c.First(none), c.Last(none), c.Len(none)}, [3]int{-1, -1, 0})
		sameList(t, "List of no list", c.List(none), nil)
	}
	for _, none := range []int{-1, 6, math.MinInt, math.MaxInt} {
		same(t, "Of, Next and Back of no node", [3]int{c.Of(none), c.Next(none), c.Back(none)}, [3]int{-1, -1, -1})
	}
}

// Promise 5.3: all that a small chain may be is told so.
func TestAllArrangementsAreTold(t *testing.T) {
	for _, want := range arrangements(2, 5) {
		c := made(t, want)
		checkChain(t, "a chain", c, want)
		checkBeyond(t, "a chain", c, want)
	}
}

// Promise 5.3: a list that is told is one's own.
func TestListIsOnesOwn(t *testing.T) {
	want := of(6, []int{4, 1, 5}, []int{0, 2})
	c := made(t, want)
	list, other := c.List(0), c.List(0)
	list[0], list[2] = 3, 3
	list = append(list[:1], 0, 0, 0, 0)
	checkChain(t, "behind changes of a list", c, want)
	sameList(t, "another list", other, []int{4, 1, 5})
	same(t, "Add behind changes of a list", c.Add(0, 3), true)
	same(t, "Join behind changes of a list", c.Join(0, 1), true)
	sameList(t, "List behind both", c.List(0), []int{4, 1, 5, 3, 0, 2})
	sameList(t, "the list told ahead", other, []int{4, 1, 5})
	sameList(t, "the changed list", list, []int{3, 0, 0, 0, 0})
}

// Promises 5.3 and 5.5: chains that New did not give do nothing, and tell that nothing is there.
func TestChainsThatNewDidNotGive(t *testing.T) {
	some := []int{0, 1, 2, -1, greatest - 1, greatest, math.MinInt, math.MaxInt}
	for name, c := range map[string]*Chain{"nil": nil, "zero": {}} {
		for range 2 {
			for _, o := range calls(some, some) {
				o.do(t, c, empty(0, 0))
			}
			checkChain(t, name, c, empty(0, 0))
			checkBeyond(t, name, c, empty(0, 0))
		}
	}
}

// both tells the nodes of a list from First on by Next, and from Last on by Back; no more of them than so many.
func both(c *Chain, list, count int) ([]int, []int) {
	var ahead, behind []int
	for node := c.First(list); node >= 0 && len(ahead) <= count; node = c.Next(node) {
		ahead = append(ahead, node)
	}
	for node := c.Last(list); node >= 0 && len(behind) <= count; node = c.Back(node) {
		behind = append(behind, node)
	}
	return ahead, behind
}

// checkBothWays holds what is gone through in both ways against what each list has to be.
func checkBothWays(t *testing.T, what string, c *Chain, want plain) {
	t.Helper()
	for list := -1; list <= len(want.lists); list++ {
		ahead, behind := both(c, list, want.nodes)
		slices.Reverse(behind)
		sameList(t, what+": by Next", ahead, want.of(list))
		sameList(t, what+": by Back", behind, want.of(list))
	}
}

// Promise 5.4: the same nodes are gone through in both ways, in all that a small chain may be, and behind each call.
func TestBothWays(t *testing.T) {
	for _, want := range arrangements(2, 4) {
		checkBothWays(t, "a chain", made(t, want), want)
		for _, o := range calls(upTo(2), upTo(4)) {
			c, behind := made(t, want), want.copied()
			o.do(t, c, behind)
			checkBothWays(t, "behind a call", c, behind)
		}
	}
}

// Promise 5.5: a node is moved behind the last one of another list, into an empty one, and behind those of its own, be it the last one already, or the only one.
func TestMove(t *testing.T) {
	ahead := of(7, []int{6, 1, 4}, []int{0}, []int{5, 2}, nil)
	for _, row := range []struct {
		list, node int
		want       plain
	}{
		{0, 6, of(7, []int{1, 4, 6}, []int{0}, []int{5, 2}, nil)},
		{0, 1, of(7, []int{6, 4, 1}, []int{0}, []int{5, 2}, nil)},
		{0, 4, ahead},
		{1, 0, ahead},
		{2, 2, ahead},
		{1, 6, of(7, []int{1, 4}, []int{0, 6}, []int{5, 2}, nil)},
		{2, 1, of(7, []int{6, 4}, []int{0}, []int{5, 2, 1}, nil)},
		{1, 4, of(7, []int{6, 1}, []int{0, 4}, []int{5, 2}, nil)},
		{3, 4, of(7, []int{6, 1}, []int{0}, []int{5, 2}, []int{4})},
		{3, 0, of(7, []int{6, 1, 4}, nil, []int{5, 2}, []int{0})},
		{0, 0, of(7, []int{6, 1, 4, 0}, nil, []int{5, 2}, nil)},
	} {
		c := made(t, ahead)
		same(t, "Move", c.Move(row.list, row.node), true)
		checkChain(t, "behind Move", c, row.want)
	}
}

// Promise 5.5: a node that is in none is not moved, nor into a list that is not there, and nothing changes.
func TestMoveOfWhatMayNot(t *testing.T) {
	want := of(5, []int{4, 0}, []int{2}, nil)
	c := made(t, want)
	for _, row := range [][2]int{{0, 1}, {1, 3}, {2, 1}, {0, -1}, {0, 5}, {-1, 4}, {3, 4}, {3, 2}, {-1, 1}, {3, 5}} {
		same(t, "Move", c.Move(row[0], row[1]), false)
		checkChain(t, "behind Move", c, want)
	}
	same(t, "Drop", c.Drop(4), true)
	same(t, "Move behind Drop", c.Move(1, 4), false)
	checkChain(t, "behind both", c, of(5, []int{0}, []int{2}, nil))
}

// Promise 5.5: nodes of a list stand behind those of another one; one of both, or both, may be empty.
func TestJoin(t *testing.T) {
	ahead := of(9, []int{6, 1, 4}, []int{0}, []int{5, 2, 8}, nil, nil)
	for _, row := range []struct {
		to, from int
		want     plain
	}{
		{0, 2, of(9, []int{6, 1, 4, 5, 2, 8}, []int{0}, nil, nil, nil)},
		{2, 0, of(9, nil, []int{0}, []int{5, 2, 8, 6, 1, 4}, nil, nil)},
		{0, 1, of(9, []int{6, 1, 4, 0}, nil, []int{5, 2, 8}, nil, nil)},
		{1, 0, of(9, nil, []int{0, 6, 1, 4}, []int{5, 2, 8}, nil, nil)},
		{0, 3, ahead},
		{1, 4, ahead},
		{3, 0, of(9, nil, []int{0}, []int{5, 2, 8}, []int{6, 1, 4}, nil)},
		{4, 1, of(9, []int{6, 1, 4}, nil, []int{5, 2, 8}, nil, []int{0})},
		{3, 4, ahead},
	} {
		c := made(t, ahead)
		same(t, "Join", c.Join(row.to, row.from), true)
		checkChain(t, "behind Join", c, row.want)
		same(t, "Join again", c.Join(row.to, row.from), true)
		checkChain(t, "behind Join again", c, row.want)
	}
}

// Promise 5.5: no list is joined with itself, nor with one that is not there, and nothing changes.
func TestJoinOfWhatMayNot(t *testing.T) {
	want := of(6, []int{4, 0, 5}, []int{2}, nil)
	c := made(t, want)
	for _, row := range [][2]int{{0, 0}, {1, 1}, {2, 2}, {0, -1}, {-1, 0}, {0, 3}, {3, 0}, {-1, -1}, {3, 3}, {2, 3}, {3, 1}} {
		same(t, "Join", c.Join(row[0], row[1]), false)
		checkChain(t, "behind Join", c, want)
	}
}

// Promises 5.2 to 5.5: all that a small chain may be, and behind it each call, wrong ones too.
func TestEachCallOfAllArrangements(t *testing.T) {
	for _, ahead := range arrangements(3, 4) {
		for _, o := range calls(upTo(3), upTo(4)) {
			c, want := made(t, ahead), ahead.copied()
			o.do(t, c, want)
			checkChain(t, "behind a call", c, want)
		}
		if t.Failed() {
			return
		}
	}
}

// Promises 5.2 to 5.5: all rows of two calls behind all that a small chain may be.
func TestAllRowsOfTwoCalls(t *testing.T) {
	all := calls([]int{0, 1}, []int{0, 1, 2})
	for _, ahead := range arrangements(2, 3) {
		for _, first := range all {
			for _, second := range all {
				c, want := made(t, ahead), ahead.copied()
				first.do(t, c, want)
				second.do(t, c, want)
				checkChain(t, "behind two calls", c, want)
			}
		}
		if t.Failed() {
			return
		}
	}
}

// Promises 5.2 to 5.5: long rows of calls, between which lists fill and become empty.
func TestLongRowsOfCalls(t *testing.T) {
	for _, size := range [][2]int{{1, 1}, {1, 9}, {2, 5}, {4, 30}, {13, 8}} {
		c, want := New(size[0], size[1]), empty(size[0], size[1])
		seed := uint32(1)
		roll := func(below int) int {
			seed = seed*1664525 + 1013904223
			return int(seed >> 8 % uint32(below))
		}
		for turn := range 6000 {
			kinds := []string{"Add", "Move", "Add", "Drop", "Add", "Join"}
			if turn/(3*size[1])%2 == 1 {
				kinds = []string{"Drop", "Move", "Drop", "Add", "Drop", "Join"}
			}
			o := call{kinds[roll(6)], roll(size[0]+2) - 1, roll(size[1]+2) - 1}
			if o.kind == "Join" {
				o.other = roll(size[0]+2) - 1
			}
			o.do(t, c, want)
			checkChain(t, "behind a call", c, want)
			if t.Failed() {
				return
			}
		}
	}
}

// Promises 5.1 to 5.5: the greatest chain, with a node in each list, then with all nodes in one.
func TestGreatestChain(t *testing.T) {
	c := New(greatest, greatest)
	for node := range greatest {
		if !c.Add(greatest-1-node, node) {
			t.Fatalf("Add of %d is false", node)
		}
	}
	for _, o := range []call{{"Add", 0, greatest}, {"Add", greatest, 0}, {"Move", greatest, 0}, {"Move", 0, greatest}, {"Join", greatest, 0}, {"Join", 0, greatest}, {"Drop", 0, greatest}} {
		o.do(t, c, empty(0, 0))
	}
	same(t, "Of the last node", c.Of(greatest-1), 0)
	same(t, "First of the last list", c.First(greatest-1), 0)
	for list := greatest - 2; list >= 0; list-- {
		if !c.Join(list%2, list) && list > 1 {
			t.Fatalf("Join of %d is false", list)
		}
	}
	same(t, "Join of the last list", c.Join(0, greatest-1), true)
	same(t, "Join of both", c.Join(0, 1), true)
	same(t, "Len", c.Len(0), greatest)
	same(t, "Len of what was joined", c.Len(greatest-1), 0)
	ahead, behind := both(c, 0, greatest)
	slices.Reverse(behind)
	sameList(t, "List", c.List(0), ahead)
	sameList(t, "by Back", behind, ahead)
	slices.Sort(ahead)
	for n, node := range ahead {
		if n != node || c.Of(node) != 0 {
			t.Fatalf("%d is at place %d, in %d", node, n, c.Of(node))
		}
	}
	same(t, "Move of the last node", c.Move(greatest-1, greatest-1), true)
	same(t, "Last of the last list", c.Last(greatest-1), greatest-1)
	same(t, "Len behind Move", c.Len(0), greatest-1)
}

// The chapter's ways: what is asked of a node that is not there is not called.
func TestAskOfANodeThatIsNotThere(t *testing.T) {
	for _, c := range []*Chain{nil, {}, New(1, 0), New(2, 5)} {
		for _, node := range beyond(5) {
			same(t, "ask", c.ask(node, func(place) int { t.Error("it was called"); return 0 }), -1)
		}
	}
}

// The chapter's example.
func TestExample(t *testing.T) {
	c := New(2, 6)
	same(t, "Add(0, 5)", c.Add(0, 5), true)
	same(t, "Add(0, 3)", c.Add(0, 3), true)
	same(t, "Add(1, 5)", c.Add(1, 5), false)
	same(t, "Drop(5)", c.Drop(5), true)
	sameList(t, "List(0)", c.List(0), []int{3})
}
