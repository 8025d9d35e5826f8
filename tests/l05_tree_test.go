package tests

import (
	"math"
	"math/rand"
	"regexp"
	"slices"
	"strings"
	"testing"

	"loop.example/g00459/impl"
)

// treeMaker puts nodes one behind the other; add tells the place of what it made.
type treeMaker struct{ nodes []impl.Node }

func (m *treeMaker) add(kind int, text string, kids ...int) int {
	m.nodes = append(m.nodes, impl.Node{Kind: kind, Text: text, Kids: kids})
	return len(m.nodes) - 1
}

func (m *treeMaker) name() int { return m.add(impl.NdName, "a") }

func (m *treeMaker) block(kids ...int) int { return m.add(impl.NdBlock, "", kids...) }

// rightTexts has a Text for each kind that has one.
var rightTexts = map[int]string{
	impl.NdName: "a", impl.NdNum: "1", impl.NdText: "'t'", impl.NdNote: "// n", impl.NdDot: "b", impl.NdChain: "+",
	impl.NdVar: "v", impl.NdSet: "s", impl.NdMethod: "m", impl.NdClass: "C",
}

// kidForms has the Kids of each kind as the chapter tells them, a letter a kid: A is the kind 1, and so on; E is a call of a name, e one of something else.
var kidForms = map[int]*regexp.Regexp{
	impl.NdName: regexp.MustCompile(`^$`), impl.NdNum: regexp.MustCompile(`^$`), impl.NdText: regexp.MustCompile(`^$`), impl.NdNote: regexp.MustCompile(`^$`),
	impl.NdList: regexp.MustCompile(`^[A-Ke]{0,12}$`), impl.NdCall: regexp.MustCompile(`^[A-Ke]{1,12}$`), impl.NdDot: regexp.MustCompile(`^[A-Ke]$`), impl.NdChain: regexp.MustCompile(`^[A-Ke]{2,12}$`),
	impl.NdPick: regexp.MustCompile(`^[A-Ke]{3}$`), impl.NdFn: regexp.MustCompile(`^A{0,11}[A-Ke]$`), impl.NdCascade: regexp.MustCompile(`^[A-Ke]E{0,11}$`), impl.NdPar: regexp.MustCompile(`^[A-Ke]$`),
	impl.NdVar: regexp.MustCompile(`^[A-Ke]?$`), impl.NdSet: regexp.MustCompile(`^[A-Ke]$`), impl.NdDo: regexp.MustCompile(`^[A-Ke]$`), impl.NdReturn: regexp.MustCompile(`^[A-Ke]?$`),
	impl.NdIf: regexp.MustCompile(`^[A-Ke]RR?$`), impl.NdWhile: regexp.MustCompile(`^[A-Ke]R$`), impl.NdBlock: regexp.MustCompile(`^[L-QS]{0,12}$`),
	impl.NdMethod: regexp.MustCompile(`^A{0,11}R$`), impl.NdClass: regexp.MustCompile(`^[LST]{0,12}$`), impl.NdFile: regexp.MustCompile(`^[LSTU]{0,12}$`),
}

// kidLetters has, beside the kinds, one below the first and one above the last.
const kidLetters = "@ABCDEeFGHIJKLMNOPQRSTUVW"

const mostKids = 12

// kidRoom has 13 nodes of each letter, so that a list of 13 Kids may have them in any order, and room for a node behind them.
type kidRoom struct {
	nodes []impl.Node
	first map[rune]int
}

func newKidRoom() kidRoom {
	m, first := &treeMaker{}, map[rune]int{}
	name, num := m.name(), m.add(impl.NdNum, "1")
	for _, letter := range kidLetters {
		first[letter] = len(m.nodes)
		for range mostKids + 1 {
			switch letter {
			case 'E':
				m.add(impl.NdCall, "", name)
			case 'e':
				m.add(impl.NdCall, "", num)
			default:
				m.add(int(letter-'@'), rightTexts[int(letter-'@')])
			}
		}
	}
	m.nodes = append(m.nodes, impl.Node{})
	return kidRoom{m.nodes, first}
}

func (r kidRoom) nodeOk(kind int, letters string) bool {
	kids := []int{}
	for i, letter := range letters {
		kids = append(kids, r.first[letter]+i)
	}
	last := len(r.nodes) - 1
	r.nodes[last] = impl.Node{Kind: kind, Text: rightTexts[kind], Kids: kids}
	return impl.NodeOk(r.nodes, last)
}

func (r kidRoom) isAsTold(t *testing.T, kind int, letters string) {
	t.Helper()
	form, told := kidForms[kind]
	want := told && form.MatchString(letters)
	if got := r.nodeOk(kind, letters); got != want {
		t.Fatalf("NodeOk of kind %d with the Kids %q is %v", kind, letters, got)
	}
}

// wholeTree has each kind of node at least once, with its depths counted by hand.
func wholeTree() ([]impl.Node, []int) {
	m, depths := &treeMaker{}, []int{}
	add := func(deep int, kind int, text string, kids ...int) int {
		depths = append(depths, deep)
		return m.add(kind, text, kids...)
	}
	note := add(1, impl.NdNote, "// the first")
	one, two := add(1, impl.NdNum, "1"), add(1, impl.NdText, "'two'")
	list := add(2, impl.NdList, "", one, two)
	held := add(3, impl.NdVar, "held", list)
	x, y := add(1, impl.NdName, "x"), add(1, impl.NdName, "y")
	f := add(1, impl.NdName, "f")
	call := add(2, impl.NdCall, "", f)
	dot := add(3, impl.NdDot, "size", call)
	seven := add(1, impl.NdNum, "007")
	chain := add(4, impl.NdChain, "<", dot, seven)
	a, b, c := add(1, impl.NdName, "a"), add(1, impl.NdName, "b"), add(1, impl.NdName, "c")
	pick := add(2, impl.NdPick, "", a, b, c)
	p, q := add(1, impl.NdName, "p"), add(1, impl.NdName, "q")
	fn := add(3, impl.NdFn, "", p, q, pick)
	par := add(4, impl.NdPar, "", fn)
	set := add(5, impl.NdSet, "x", par)
	bare := add(1, impl.NdReturn, "")
	yes := add(6, impl.NdBlock, "", set, bare)
	no := add(1, impl.NdBlock, "")
	choice := add(7, impl.NdIf, "", chain, yes, no)
	z, g, h, i := add(1, impl.NdName, "z"), add(1, impl.NdName, "g"), add(1, impl.NdName, "h"), add(1, impl.NdNum, "3")
	first := add(2, impl.NdCall, "", g)
	second := add(2, impl.NdCall, "", h, i)
	cascade := add(3, impl.NdCascade, "", z, first, second)
	do := add(4, impl.NdDo, "", cascade)
	inner := add(1, impl.NdNote, "//")
	loop := add(5, impl.NdBlock, "", do, inner)
	more := add(1, impl.NdName, "more")
	while := add(6, impl.NdWhile, "", more, loop)
	ret := add(1, impl.NdNum, "123456789012")
	back := add(2, impl.NdReturn, "", ret)
	body := add(8, impl.NdBlock, "", choice, while, back)
	method := add(9, impl.NdMethod, "m", x, y, body)
	empty := add(1, impl.NdVar, "_")
	class := add(10, impl.NdClass, "K", method, empty)
	file := add(11, impl.NdFile, "", note, held, class)
	for _, k := range []int{held, class, method, empty, choice, while, back, do, inner, set, bare} {
		m.nodes[k].Blank = true
	}
	if file != len(m.nodes)-1 {
		panic("the file is not last")
	}
	return m.nodes, depths
}

// cloneTree copies the Kids, too, so that one copy may be changed alone.
func cloneTree(nodes []impl.Node) []impl.Node {
	list := slices.Clone(nodes)
	for k := range list {
		list[k].Kids = slices.Clone(list[k].Kids)
	}
	return list
}

// deepByWord is DeepOf as the chapter says it: by the Kids, each anew.
func deepByWord(nodes []impl.Node, k int) int {
	if k < 0 || k >= len(nodes) {
		return 0
	}
	var deep func(k int) int
	deep = func(k int) int {
		most := 0
		for _, kid := range nodes[k].Kids {
			most = max(most, deep(kid))
		}
		return most + 1
	}
	for i := 0; i <= k; i++ {
		if !impl.NodeOk(nodes, i) || deep(i) > impl.MaxDeep {
			return 0
		}
	}
	return deep(k)
}

func treeByWord(nodes []impl.Node) bool {
	if len(nodes) < 1 || len(nodes) > impl.MaxNodes || nodes[len(nodes)-1].Kind != impl.NdFile {
		return false
	}
	for k := range nodes {
		if deepByWord(nodes, k) == 0 {
			return false
		}
		owners := 0
		for _, other := range nodes {
			if slices.Contains(other.Kids, k) {
				owners++
			}
		}
		if k < len(nodes)-1 && owners != 1 {
			return false
		}
	}
	return true
}

// anyTree makes a right tree by chance of the seed: a class with methods, and values of each kind.
func anyTree(seed int64) []impl.Node {
	chance, m := rand.New(rand.NewSource(seed)), &treeMaker{}
	var value func(deep int) int
	values := func(count, deep int) []int {
		kids := []int{}
		for range count {
			kids = append(kids, value(deep-1))
		}
		return kids
	}
	value = func(deep int) int {
		if deep <= 1 {
			kind := 1 + chance.Intn(3)
			return m.add(kind, rightTexts[kind])
		}
		switch kind := impl.NdList + chance.Intn(8); kind {
		case impl.NdList:
			return m.add(kind, "", values(chance.Intn(3), deep)...)
		case impl.NdCall:
			return m.add(kind, "", values(1+chance.Intn(3), deep)...)
		case impl.NdChain:
			return m.add(kind, "&&", values(2+chance.Intn(2), deep)...)
		case impl.NdPick:
			return m.add(kind, "", values(3, deep)...)
		case impl.NdFn:
			return m.add(kind, "", m.name(), value(deep-1))
		case impl.NdCascade:
			first := value(deep - 1)
			return m.add(kind, "", first, m.add(impl.NdCall, "", m.name()))
		default:
			return m.add(kind, rightTexts[kind], value(deep-1))
		}
	}
	step := func() int {
		switch kind := impl.NdVar + chance.Intn(6); kind {
		case impl.NdIf:
			return m.add(kind, "", value(2), m.block(m.add(impl.NdReturn, "")), m.block())
		case impl.NdWhile:
			return m.add(kind, "", value(2), m.block(m.add(impl.NdNote, "// n")))
		default:
			return m.add(kind, rightTexts[kind], value(1+chance.Intn(4)))
		}
	}
	steps := []int{}
	for range chance.Intn(4) {
		steps = append(steps, step())
		m.nodes[steps[len(steps)-1]].Blank = chance.Intn(2) == 0
	}
	method := m.add(impl.NdMethod, "m", m.name(), m.block(steps...))
	class := m.add(impl.NdClass, "C", method)
	m.add(impl.NdFile, "", class, m.add(impl.NdVar, "v", value(3)))
	return m.nodes
}

func TestKindsOfNodes(t *testing.T) {
	kinds := []int{impl.NdName, impl.NdNum, impl.NdText, impl.NdList, impl.NdCall, impl.NdDot, impl.NdChain, impl.NdPick, impl.NdFn, impl.NdCascade, impl.NdPar, impl.NdVar, impl.NdSet, impl.NdDo, impl.NdReturn, impl.NdIf, impl.NdWhile, impl.NdBlock, impl.NdNote, impl.NdMethod, impl.NdClass, impl.NdFile}
	for i, kind := range kinds {
		if kind != i+1 {
			t.Errorf("the kind %d is %d", i+1, kind)
		}
	}
	if len(kinds) != 22 || impl.MaxNodes != 300 || impl.MaxDeep != 14 {
		t.Error("a limit is not the document's")
	}
}

func TestAWholeTree(t *testing.T) {
	nodes, depths := wholeTree()
	for k, node := range nodes {
		if !impl.NodeOk(nodes, k) {
			t.Errorf("NodeOk at %d (%v) is false", k, node)
		}
		if got := impl.DeepOf(nodes, k); got != depths[k] {
			t.Errorf("DeepOf at %d (%v) is %d; want %d", k, node, got, depths[k])
		}
		if impl.TreeOk(nodes[:k]) {
			t.Errorf("TreeOk of the first %d nodes", k)
		}
	}
	if !impl.TreeOk(nodes) {
		t.Error("TreeOk is false")
	}
	for kind := impl.NdName; kind <= impl.NdFile; kind++ {
		if !slices.ContainsFunc(nodes, func(node impl.Node) bool { return node.Kind == kind }) {
			t.Errorf("the tree has no kind %d", kind)
		}
	}
}

func TestARightTreeIsGoneThroughFromItsLeaves(t *testing.T) {
	whole, _ := wholeTree()
	trees := [][]impl.Node{whole}
	for seed := range int64(400) {
		trees = append(trees, anyTree(seed))
	}
	for _, nodes := range trees {
		if !impl.TreeOk(nodes) {
			t.Fatalf("TreeOk of %v is false", nodes)
		}
		for k, node := range nodes {
			deep := impl.DeepOf(nodes, k)
			if deep != deepByWord(nodes, k) || deep < 1 || deep > impl.MaxDeep {
				t.Fatalf("DeepOf at %d of %v is %d", k, nodes, deep)
			}
			for _, kid := range node.Kids {
				if kid >= k || impl.DeepOf(nodes, kid) >= deep {
					t.Fatalf("the kid %d of %d in %v is as deep", kid, k, nodes)
				}
			}
			if (deep == 1) != (len(node.Kids) == 0) {
				t.Fatalf("DeepOf at %d of %v is %d", k, nodes, deep)
			}
		}
	}
}

func TestKidsOfEachKind(t *testing.T) {
	room := newKidRoom()
	lists := []string{""}
	for size := range 4 {
		longer := []string{}
		for _, list := range lists {
			for kind := -1; kind <= impl.NdFile+2; kind++ {
				room.isAsTold(t, kind, list)
			}
			if size == 3 {
				continue
			}
			for _, letter := range kidLetters {
				longer = append(longer, list+string(letter))
			}
		}
		lists = longer
	}
}

func TestTheMostKids(t *testing.T) {
	room := newKidRoom()
	for kind := range kidForms {
		for _, most := range kidLetters {
			for size := mostKids - 1; size <= mostKids+1; size++ {
				list := strings.Repeat(string(most), size)
				for i := range size {
					for _, letter := range kidLetters {
						room.isAsTold(t, kind, list[:i]+string(letter)+list[i+1:])
					}
				}
			}
		}
	}
}

func TestFewestAndMostKids(t *testing.T) {
	twelve := func(letter string) string { return strings.Repeat(letter, 12) }
	for _, c := range []struct {
		kind    int
		right   []string
		refused []string
	}{
		{impl.NdName, []string{""}, []string{"A", "B", "S"}},
		{impl.NdNum, []string{""}, []string{"B", "AA"}},
		{impl.NdText, []string{""}, []string{"C", "B"}},
		{impl.NdNote, []string{""}, []string{"S", "A", "L"}},
		{impl.NdList, []string{"", "A", "AB", twelve("B")}, []string{twelve("B") + "B", "L", "AS", "RA"}},
		{impl.NdCall, []string{"A", "B", "AB", "eA", twelve("A")}, []string{"", twelve("A") + "A", "R", "AL", "N"}},
		{impl.NdDot, []string{"A", "F", "e"}, []string{"", "AA", "L"}},
		{impl.NdChain, []string{"AB", "ABC", "GG", twelve("G")}, []string{"", "A", twelve("G") + "G", "AR", "LA"}},
		{impl.NdPick, []string{"ABC", "HHH", "IJK"}, []string{"", "A", "AB", "ABCD", "ABL", "RAB"}},
		{impl.NdFn, []string{"A", "B", "AB", "AAA", twelve("A"), strings.Repeat("A", 11) + "I"}, []string{"", "BA", "BB", "AR", "R", "AAL", "ABA", twelve("A") + "A"}},
		{impl.NdCascade, []string{"A", "AE", "eE", "AEE", "E" + strings.Repeat("E", 11), "J"}, []string{"", "Ae", "AA", "AB", "AEe", "AeE", "LE", "A" + twelve("E")}},
		{impl.NdPar, []string{"A", "J", "K"}, []string{"", "AA", "M"}},
		{impl.NdVar, []string{"", "A", "J"}, []string{"AA", "L", "R"}},
		{impl.NdSet, []string{"A"}, []string{"", "AA", "O"}},
		{impl.NdDo, []string{"A", "E"}, []string{"", "AA", "N"}},
		{impl.NdReturn, []string{"", "A"}, []string{"AA", "O"}},
		{impl.NdIf, []string{"AR", "ARR"}, []string{"", "A", "R", "AA", "AAR", "RA", "ARA", "ARRR", "ARP", "LR", "ANR"}},
		{impl.NdWhile, []string{"AR"}, []string{"", "A", "R", "ARR", "AA", "RR", "QR"}},
		{impl.NdBlock, []string{"", "L", "LMNOPQS", twelve("N")}, []string{twelve("N") + "N", "A", "K", "R", "T", "U", "V", "NA"}},
		{impl.NdMethod, []string{"R", "AR", "AAR", strings.Repeat("A", 11) + "R"}, []string{"", "A", "B", "BR", "RR", "RA", "ARA", twelve("A") + "R"}},
		{impl.NdClass, []string{"", "L", "S", "T", "TSL", twelve("T")}, []string{twelve("T") + "T", "U", "V", "R", "M", "A", "TU"}},
		{impl.NdFile, []string{"", "L", "S", "T", "U", "UTSL", twelve("U")}, []string{twelve("U") + "U", "V", "R", "M", "A", "UV", "N"}},
	} {
		room := newKidRoom()
		for _, list := range c.right {
			if !room.nodeOk(c.kind, list) {
				t.Errorf("NodeOk of kind %d with the Kids %q is false", c.kind, list)
			}
		}
		for _, list := range c.refused {
			if room.nodeOk(c.kind, list) {
				t.Errorf("NodeOk of kind %d with the Kids %q is true", c.kind, list)
			}
		}
	}
}

func TestPlacesOfKids(t *testing.T) {
	list := func(kids ...int) []impl.Node {
		return []impl.Node{{Kind: impl.NdName, Text: "a"}, {Kind: impl.NdName, Text: "b"}, {Kind: impl.NdList, Kids: kids}, {Kind: impl.NdName, Text: "c"}}
	}
	for _, kids := range [][]int{nil, {}, {0}, {1}, {0, 1}, {1, 0}} {
		if !impl.NodeOk(list(kids...), 2) {
			t.Errorf("NodeOk with the Kids %v is false", kids)
		}
	}
	for _, kids := range [][]int{{2}, {3}, {4}, {-1}, {0, 2}, {0, 3}, {0, 4}, {2, 0}, {0, -1}, {-1, 0}, {0, 0}, {1, 1}, {0, 1, 0}, {1, 0, 0}, {math.MaxInt}, {math.MinInt}, {0, math.MaxInt}, {math.MinInt, 1}} {
		if impl.NodeOk(list(kids...), 2) {
			t.Errorf("NodeOk with the Kids %v is true", kids)
		}
	}
	// The first node has nothing ahead.
	for _, kids := range [][]int{{0}, {1}, {-1}} {
		if impl.NodeOk([]impl.Node{{Kind: impl.NdList, Kids: kids}, {Kind: impl.NdName, Text: "a"}}, 0) {
			t.Errorf("NodeOk of the first node with the Kids %v is true", kids)
		}
	}
	// Each node may be the kid of two, as far as one node is asked; a tree may not.
	both := []impl.Node{{Kind: impl.NdName, Text: "a"}, {Kind: impl.NdPar, Kids: []int{0}}, {Kind: impl.NdPar, Kids: []int{0}}}
	if !impl.NodeOk(both, 1) || !impl.NodeOk(both, 2) || impl.DeepOf(both, 2) != 2 {
		t.Error("NodeOk of a kid of two")
	}
}

func TestPlacesWithoutANode(t *testing.T) {
	whole, _ := wholeTree()
	for _, nodes := range [][]impl.Node{nil, {}, whole, {{Kind: impl.NdFile}}} {
		for _, k := range []int{-1, -2, len(nodes), len(nodes) + 1, math.MaxInt, math.MinInt} {
			if impl.NodeOk(nodes, k) || impl.DeepOf(nodes, k) != 0 {
				t.Errorf("NodeOk or DeepOf of %d nodes at %d", len(nodes), k)
			}
		}
	}
	if impl.NodeOk(nil, 0) || impl.DeepOf(nil, 0) != 0 || impl.TreeOk(nil) || impl.TreeOk([]impl.Node{}) {
		t.Error("nothing is taken for a tree")
	}
}

func TestNodesOfNoKind(t *testing.T) {
	for _, kind := range []int{0, -1, 23, 24, -22, math.MaxInt, math.MinInt} {
		for _, node := range []impl.Node{{Kind: kind}, {Kind: kind, Text: "a"}, {Kind: kind, Blank: true}, {Kind: kind, Kids: []int{0}}} {
			nodes := []impl.Node{{Kind: impl.NdName, Text: "a"}, node}
			if impl.NodeOk(nodes, 1) || impl.DeepOf(nodes, 1) != 0 || impl.TreeOk(nodes) || impl.TreeOk(nodes[1:]) {
				t.Errorf("a node %v is taken", node)
			}
		}
	}
}

func TestCallsAmongKids(t *testing.T) {
	// Each case is a call, which the node behind it has as its kid.
	isOk := func(called ...int) []bool {
		answers := []bool{}
		for _, kind := range []int{impl.NdDo, impl.NdPar, impl.NdDot, impl.NdList, impl.NdVar, impl.NdCall, impl.NdCascade, impl.NdReturn, impl.NdFn} {
			nodes := []impl.Node{{Kind: impl.NdName, Text: "f"}, {Kind: impl.NdCall, Kids: called}, {Kind: kind, Text: rightTexts[kind], Kids: []int{1}}, {Kind: impl.NdName, Text: "g"}}
			answers = append(answers, impl.NodeOk(nodes, 2))
		}
		return answers
	}
	// What is called must be a node, wherever it stands; that it stands ahead is asked of the call itself.
	for _, called := range [][]int{{0}, {1}, {2}, {3}, {0, 9}, {0, -1}} {
		if slices.Contains(isOk(called...), false) {
			t.Errorf("a node with a call of %v is refused: %v", called, isOk(called...))
		}
	}
	for _, called := range [][]int{nil, {}, {-1}, {4}, {-1, 0}, {4, 0}, {math.MaxInt}, {math.MinInt}} {
		if slices.Contains(isOk(called...), true) {
			t.Errorf("a node with a call of %v is taken: %v", called, isOk(called...))
		}
	}
	// A call of a cascade is one of a name.
	for _, c := range []struct {
		called []int
		want   bool
	}{{[]int{0}, true}, {[]int{0, 1}, true}, {[]int{4}, true}, {[]int{1}, false}, {[]int{1, 0}, false}, {[]int{2}, false}, {[]int{3}, false}, {[]int{5}, false}, {[]int{-1}, false}, {[]int{}, false}} {
		nodes := []impl.Node{{Kind: impl.NdName, Text: "f"}, {Kind: impl.NdNum, Text: "1"}, {Kind: impl.NdCall, Kids: c.called}, {Kind: impl.NdCascade, Kids: []int{0, 2}}, {Kind: impl.NdName, Text: "g"}}
		if got := impl.NodeOk(nodes, 3); got != c.want {
			t.Errorf("NodeOk of a cascade with a call of %v is %v", c.called, got)
		}
	}
	// The call may be any kid of several.
	for i := range 3 {
		m := &treeMaker{}
		kids := []int{m.name(), m.name(), m.name()}
		kids[i] = m.add(impl.NdCall, "")
		pick := m.add(impl.NdPick, "", kids...)
		if impl.NodeOk(m.nodes, pick) {
			t.Errorf("NodeOk with a call of nothing as the kid %d is true", i)
		}
		m.nodes[kids[i]].Kids = []int{pick}
		if !impl.NodeOk(m.nodes, pick) || impl.DeepOf(m.nodes, pick) != 0 {
			t.Errorf("NodeOk or DeepOf with a call of what stands behind as the kid %d", i)
		}
	}
}

// kindsBySign has for each kind of sign those of nodes whose Text it is; 0 is no sign.
var kindsBySign = map[int][]int{
	impl.SgName: {impl.NdName, impl.NdDot, impl.NdVar, impl.NdSet, impl.NdMethod, impl.NdClass},
	impl.SgNum:  {impl.NdNum},
	impl.SgText: {impl.NdText},
	impl.SgMark: {impl.NdChain},
	impl.SgNote: {impl.NdNote},
	0:           {impl.NdList, impl.NdCall, impl.NdPick, impl.NdFn, impl.NdCascade, impl.NdPar, impl.NdDo, impl.NdReturn, impl.NdIf, impl.NdWhile, impl.NdBlock, impl.NdFile},
}

// fewestKids has Kids for each kind that must have some.
var fewestKids = map[int]string{
	impl.NdCall: "A", impl.NdDot: "A", impl.NdChain: "AA", impl.NdPick: "AAA", impl.NdFn: "A", impl.NdCascade: "A", impl.NdPar: "A", impl.NdSet: "A", impl.NdDo: "A", impl.NdIf: "AR", impl.NdWhile: "AR", impl.NdMethod: "R",
}

func (r kidRoom) textOk(kind int, text string, blank bool) bool {
	if !r.nodeOk(kind, fewestKids[kind]) {
		return false
	}
	last := len(r.nodes) - 1
	r.nodes[last].Text, r.nodes[last].Blank = text, blank
	return impl.NodeOk(r.nodes, last)
}

// mayHave asks whether just the nodes whose Text is a sign of this kind may have this Text.
func mayHave(t *testing.T, room kidRoom, text string, sign int) {
	t.Helper()
	for other, kinds := range kindsBySign {
		for _, kind := range kinds {
			if got := room.textOk(kind, text, false); got != (other == sign) {
				t.Errorf("NodeOk of kind %d with the Text %.60q is %v", kind, text, got)
			}
		}
	}
}

func TestTextsOfNodes(t *testing.T) {
	room := newKidRoom()
	mayHave(t, room, "", 0)
	names := []string{"a", "Z", "_", "_9", "aZ_0", strings.Repeat("n", 30), "_" + strings.Repeat("9", 29)}
	// SignsOf has key words as names.
	for _, text := range append(names, keyWords...) {
		mayHave(t, room, text, impl.SgName)
	}
	for _, text := range []string{"0", "9", "007", "123456789012", "000000000000"} {
		mayHave(t, room, text, impl.SgNum)
	}
	for _, text := range []string{"''", "' '", "'a'", "'// x'", "' a '", "'" + strings.Repeat("t", 2998) + "'"} {
		mayHave(t, room, text, impl.SgText)
	}
	for _, text := range []string{"//", "///", "// x", "//x", "//  x  y", "// 'x", "//" + strings.Repeat("n", 2998)} {
		mayHave(t, room, text, impl.SgNote)
	}
	chained := []string{"&&", "||", "==", "<", "+", "-", "*"}
	for _, text := range chained {
		mayHave(t, room, text, impl.SgMark)
	}
	for _, mark := range marks {
		if !slices.Contains(chained, mark) {
			mayHave(t, room, mark, -1)
		}
	}
}

func TestTextsThatNoNodeHas(t *testing.T) {
	room := newKidRoom()
	for _, text := range []string{
		" ", "\n", " a", "a ", "\na", "a\n", "a b", "a.b", "a;", "1a", "a-b", "a\x00", "\xff", "a\xff", "\xc3\xa9", strings.Repeat("n", 31), "_" + strings.Repeat("9", 30), "1 ", " 1", "1 2", "-1", "1.5", "1234567890123", "0000000000000", "1_",
		"'", "'a", "a'", "'''", "''''", "'a' ", " 'a'", "'a''b'", "'a\n'", "'\t'", "'\xff'", "'\x7f'", "'" + strings.Repeat("t", 2999) + "'", "'" + strings.Repeat("t", 2999),
		"/", "// ", "// x ", " // x", "//\n", "// x\n", "// x\n// y", "//\t", "// \xff", "a // x", "// x\na", "//" + strings.Repeat("n", 2999), "//" + strings.Repeat(" ", 20), "+ ", " +", "++", "+-", "&", "|", "=", "<=", ">", "&&&&", "=>", "..", "===", "+1",
	} {
		mayHave(t, room, text, -1)
	}
}

// TestTextsByForms holds the Texts of nodes against the forms of signs, over all short texts.
func TestTextsByForms(t *testing.T) {
	room := newKidRoom()
	kinds := []int{impl.NdName, impl.NdNum, impl.NdText, impl.NdNote, impl.NdClass}
	signs := []int{impl.SgName, impl.SgNum, impl.SgText, impl.SgNote, impl.SgName}
	last := len(room.nodes) - 1
	eachSignText(func(text string) {
		list, _, ok := signsByForms(text)
		one := ok && len(list) == 1 && list[0].Text == text
		for i, kind := range kinds {
			room.nodes[last] = impl.Node{Kind: kind, Text: text}
			if got, want := impl.NodeOk(room.nodes, last), one && list[0].Kind == signs[i]; got != want {
				t.Fatalf("NodeOk of kind %d with the Text %q is %v", kind, text, got)
			}
		}
	})
}

func TestBlanksOfNodes(t *testing.T) {
	room := newKidRoom()
	blanks := []int{impl.NdVar, impl.NdSet, impl.NdDo, impl.NdReturn, impl.NdIf, impl.NdWhile, impl.NdNote, impl.NdMethod, impl.NdClass}
	for kind := impl.NdName; kind <= impl.NdFile; kind++ {
		if got, want := room.textOk(kind, rightTexts[kind], true), slices.Contains(blanks, kind); got != want {
			t.Errorf("NodeOk of kind %d with Blank is %v", kind, got)
		}
		if !room.textOk(kind, rightTexts[kind], false) {
			t.Errorf("NodeOk of kind %d without Blank is false", kind)
		}
	}
	// The first one of a block may have it, as far as a node is asked.
	nodes := []impl.Node{{Kind: impl.NdReturn, Blank: true}, {Kind: impl.NdBlock, Kids: []int{0}}, {Kind: impl.NdMethod, Text: "m", Kids: []int{1}, Blank: true}, {Kind: impl.NdFile, Kids: []int{2}}}
	if !impl.TreeOk(nodes) {
		t.Error("TreeOk of a tree whose first statement has Blank is false")
	}
}

// nested has a name in so many NdPars, an NdVar, and an NdFile: its depth is three more.
func nested(pars int) []impl.Node {
	m := &treeMaker{}
	last := m.name()
	for range pars {
		last = m.add(impl.NdPar, "", last)
	}
	m.add(impl.NdFile, "", m.add(impl.NdVar, "v", last))
	return m.nodes
}

func TestTheDeepest(t *testing.T) {
	for pars := range 20 {
		nodes := nested(pars)
		for k := range nodes {
			want := k + 1
			if want > impl.MaxDeep {
				want = 0
			}
			if got := impl.DeepOf(nodes, k); got != want {
				t.Errorf("DeepOf %d nodes in one another at %d is %d; want %d", len(nodes), k, got, want)
			}
		}
		if got := impl.TreeOk(nodes); got != (pars+3 <= 14) {
			t.Errorf("TreeOk of a depth of %d is %v", pars+3, got)
		}
	}
	// Behind one that is too deep none has a depth, not even a leaf.
	m := &treeMaker{nodes: nested(12)}
	leaf := m.name()
	m.add(impl.NdPar, "", leaf)
	if len(m.nodes) != 17 || impl.DeepOf(m.nodes, 13) != 14 || impl.DeepOf(m.nodes, 14) != 0 || impl.DeepOf(m.nodes, leaf) != 0 || impl.DeepOf(m.nodes, leaf+1) != 0 || !impl.NodeOk(m.nodes, leaf) || !impl.NodeOk(m.nodes, 14) {
		t.Error("DeepOf behind one that is too deep")
	}
	// The deepest kid counts, wherever it stands.
	for i := range 3 {
		m := &treeMaker{}
		deep := m.add(impl.NdPar, "", m.add(impl.NdPar, "", m.name()))
		kids := []int{m.name(), m.name(), m.name()}
		kids[i] = deep
		list := m.add(impl.NdList, "", kids...)
		if got := impl.DeepOf(m.nodes, list); got != 4 {
			t.Errorf("DeepOf with the deepest kid at %d is %d", i, got)
		}
	}
}

func TestDeepOfBehindAWrongNode(t *testing.T) {
	whole, depths := wholeTree()
	for wrong := range whole {
		nodes := cloneTree(whole)
		nodes[wrong].Kind = 0
		for k := range nodes {
			want := 0
			if k < wrong {
				want = depths[k]
			}
			if got := impl.DeepOf(nodes, k); got != want {
				t.Fatalf("DeepOf at %d with a wrong node at %d is %d; want %d", k, wrong, got, want)
			}
		}
		if impl.TreeOk(nodes) {
			t.Errorf("TreeOk with a wrong node at %d is true", wrong)
		}
	}
	// Nodes behind the place are not asked, and no limit of nodes holds for a depth.
	many := make([]impl.Node, 1000)
	for k := range many {
		many[k] = impl.Node{Kind: impl.NdNum, Text: "1"}
	}
	many[999] = impl.Node{Kind: impl.NdList, Kids: []int{0, 998}}
	if impl.DeepOf(many, 998) != 1 || impl.DeepOf(many, 999) != 2 {
		t.Error("DeepOf of many nodes")
	}
}

// wideTree has classes of NdVars, as many nodes as are asked for.
func wideTree(size int) []impl.Node {
	m, classes := &treeMaker{}, []int{}
	for len(m.nodes) < size-1 {
		vars := []int{}
		for range mostKids {
			switch left := size - 2 - len(m.nodes); {
			case left >= 2:
				vars = append(vars, m.add(impl.NdVar, "v", m.name()))
			case left == 1:
				vars = append(vars, m.add(impl.NdVar, "v"))
			}
		}
		classes = append(classes, m.add(impl.NdClass, "C", vars...))
	}
	m.add(impl.NdFile, "", classes...)
	return m.nodes
}

func TestTheMostNodes(t *testing.T) {
	for _, c := range []struct {
		size int
		want bool
	}{{1, true}, {2, true}, {3, true}, {26, true}, {27, true}, {299, true}, {300, true}, {301, false}} {
		nodes := wideTree(c.size)
		if len(nodes) != c.size {
			t.Fatalf("a tree of %d nodes has %d", c.size, len(nodes))
		}
		if got := impl.TreeOk(nodes); got != c.want {
			t.Errorf("TreeOk of %d nodes is %v", c.size, got)
		}
		// Just the number of nodes is too great.
		if !impl.NodeOk(nodes, c.size-1) || impl.DeepOf(nodes, c.size-1) == 0 {
			t.Errorf("the last of %d nodes has no depth", c.size)
		}
	}
}

func TestTreesThatAreNotRight(t *testing.T) {
	name, num := impl.Node{Kind: impl.NdName, Text: "a"}, impl.Node{Kind: impl.NdNum, Text: "1"}
	hold := func(kids ...int) impl.Node { return impl.Node{Kind: impl.NdVar, Text: "v", Kids: kids} }
	file := func(kids ...int) impl.Node { return impl.Node{Kind: impl.NdFile, Kids: kids} }
	for _, nodes := range [][]impl.Node{{file()}, {hold(), file(0)}, {num, hold(0), file(1)}, {hold(), hold(), file(1, 0)}, {hold(), name, hold(1), file(0, 2)}} {
		if !impl.TreeOk(nodes) {
			t.Errorf("TreeOk of %v is false", nodes)
		}
	}
	for _, c := range []struct {
		why   string
		nodes []impl.Node
	}{
		{"no file", []impl.Node{name}},
		{"no file", []impl.Node{num, hold(0)}},
		{"no file at the end", []impl.Node{num, hold(0), file(1), name}},
		{"a file of a file", []impl.Node{file(), file(0)}},
		{"two files", []impl.Node{file(), file()}},
		{"a file that is nobody's kid", []impl.Node{file(), hold(), file(1)}},
		{"nobody's kid at the beginning", []impl.Node{name, num, hold(1), file(2)}},
		{"nobody's kid in the middle", []impl.Node{num, hold(0), name, file(1)}},
		{"nobody's kid, a member", []impl.Node{hold(), hold(), file(1)}},
		{"nobody's kids", []impl.Node{hold(), file()}},
		{"a value of two", []impl.Node{num, hold(0), hold(0), file(1, 2)}},
		{"a value of two, and one of none", []impl.Node{num, num, hold(0), hold(0), file(2, 3)}},
		{"a member of two", []impl.Node{hold(), {Kind: impl.NdClass, Text: "C", Kids: []int{0}}, file(0, 1)}},
		{"a value of three", []impl.Node{num, hold(0), hold(0), hold(0), file(1, 2, 3)}},
		{"a name that is called twice", []impl.Node{name, name, {Kind: impl.NdCall, Kids: []int{0}}, {Kind: impl.NdCall, Kids: []int{0}}, {Kind: impl.NdCascade, Kids: []int{1, 2, 3}}, hold(4), file(5)}},
		{"a kid twice", []impl.Node{num, {Kind: impl.NdList, Kids: []int{0, 0}}, hold(1), file(2)}},
		{"its own kid", []impl.Node{hold(0), file(0)}},
		{"a kid behind it", []impl.Node{hold(1), num, file(0)}},
		{"a file with a value", []impl.Node{num, file(0)}},
		{"a file with a name", []impl.Node{hold(), {Kind: impl.NdFile, Text: "f", Kids: []int{0}}}},
		{"a file with Blank", []impl.Node{{Kind: impl.NdFile, Blank: true}}},
		{"a file with a place below 0", []impl.Node{hold(), file(0, -1)}},
		{"a file with itself", []impl.Node{hold(), file(0, 1)}},
		{"a file with a place past the end", []impl.Node{hold(), file(0, 2)}},
	} {
		if impl.TreeOk(c.nodes) {
			t.Errorf("TreeOk with %s is true", c.why)
		}
	}
}

// TestTreesByWord turns one thing in a right tree, by chance, and holds the answers against the chapter's words.
func TestTreesByWord(t *testing.T) {
	refused := 0
	for seed := range int64(6000) {
		nodes, chance := anyTree(seed%60), rand.New(rand.NewSource(seed))
		k := chance.Intn(len(nodes))
		node, other := &nodes[k], nodes[chance.Intn(len(nodes))]
		switch chance.Intn(6) {
		case 0:
			node.Kids = append(slices.Clone(node.Kids), chance.Intn(len(nodes)+2)-1)
		case 1:
			if size := len(node.Kids); size > 0 {
				node.Kids[chance.Intn(size)] = chance.Intn(len(nodes)+2) - 1
			}
		case 2:
			node.Kind = other.Kind
		case 3:
			node.Text = other.Text
		case 4:
			node.Blank = !node.Blank
		case 5:
			*node = other
		}
		for k := range nodes {
			if got, want := impl.DeepOf(nodes, k), deepByWord(nodes, k); got != want {
				t.Fatalf("DeepOf at %d of %v is %d; want %d", k, nodes, got, want)
			}
		}
		want := treeByWord(nodes)
		if got := impl.TreeOk(nodes); got != want {
			t.Fatalf("TreeOk of %v is %v", nodes, got)
		}
		if !want {
			refused++
		}
	}
	if refused < 1000 || refused > 5900 {
		t.Errorf("%d of the trees are not right", refused)
	}
}

func TestSameTree(t *testing.T) {
	whole, _ := wholeTree()
	if !impl.SameTree(whole, whole) || !impl.SameTree(whole, cloneTree(whole)) {
		t.Error("SameTree of a tree with itself is false")
	}
	isOther := func(what string, change func(nodes []impl.Node) []impl.Node) {
		t.Helper()
		other := change(cloneTree(whole))
		if impl.SameTree(whole, other) || impl.SameTree(other, whole) {
			t.Errorf("SameTree with another %s is true", what)
		}
	}
	for k := range whole {
		isOther("Kind", func(nodes []impl.Node) []impl.Node { nodes[k].Kind++; return nodes })
		isOther("Text", func(nodes []impl.Node) []impl.Node { nodes[k].Text += "x"; return nodes })
		isOther("Blank", func(nodes []impl.Node) []impl.Node { nodes[k].Blank = !nodes[k].Blank; return nodes })
		isOther("kid more", func(nodes []impl.Node) []impl.Node { nodes[k].Kids = append(nodes[k].Kids, 0); return nodes })
		isOther("node less", func(nodes []impl.Node) []impl.Node { return slices.Delete(nodes, k, k+1) })
		isOther("node more", func(nodes []impl.Node) []impl.Node { return slices.Insert(nodes, k, nodes[k]) })
		for i := range whole[k].Kids {
			isOther("kid", func(nodes []impl.Node) []impl.Node { nodes[k].Kids[i]--; return nodes })
			isOther("kid less", func(nodes []impl.Node) []impl.Node {
				nodes[k].Kids = slices.Delete(nodes[k].Kids, i, i+1)
				return nodes
			})
		}
		isOther("length", func(nodes []impl.Node) []impl.Node { return nodes[:k] })
	}
	isOther("order of Kids", func(nodes []impl.Node) []impl.Node {
		slices.Reverse(nodes[len(nodes)-1].Kids)
		return nodes
	})
	isOther("length", func(nodes []impl.Node) []impl.Node { return append(nodes, impl.Node{}) })
}

func TestSameTreeOfOddLists(t *testing.T) {
	// An empty list and nil are the same.
	if !impl.SameTree(nil, nil) || !impl.SameTree(nil, []impl.Node{}) || !impl.SameTree([]impl.Node{}, nil) || impl.SameTree(nil, []impl.Node{{}}) || impl.SameTree([]impl.Node{{}}, []impl.Node{}) {
		t.Error("SameTree of nothing")
	}
	a, b := []impl.Node{{Kind: impl.NdFile}}, []impl.Node{{Kind: impl.NdFile, Kids: []int{}}}
	if !impl.SameTree(a, b) || !impl.SameTree(b, a) || !impl.TreeOk(a) || !impl.TreeOk(b) {
		t.Error("SameTree of Kids that are nil and empty")
	}
	// Nodes that no tree has are compared like others.
	odd := []impl.Node{{Kind: -1, Text: "\xff", Kids: []int{-5, 7, 7}, Blank: true}, {Kind: 99}, {}}
	if !impl.SameTree(odd, cloneTree(odd)) || impl.SameTree(odd, odd[:2]) || impl.SameTree(odd, []impl.Node{odd[0], odd[2], odd[1]}) {
		t.Error("SameTree of nodes that no tree has")
	}
}

func TestTreesAreLeftAsTheyAre(t *testing.T) {
	// The Kids lie in one list, the nodes in another one, with room behind them.
	kids := []int{0, 1, 7, 7, 7}
	room := []impl.Node{{Kind: impl.NdName, Text: "a"}, {Kind: impl.NdNum, Text: "1"}, {Kind: impl.NdList, Kids: kids[:2]}, {Kind: impl.NdVar, Text: "v", Kids: []int{2}}, {Kind: impl.NdFile, Kids: []int{3}}, {Kind: 99, Text: "spare"}, {Kind: 98}}
	want, wantKids := cloneTree(room), slices.Clone(kids)
	nodes := room[:5]
	for range 2 {
		for k := range nodes {
			if !impl.NodeOk(nodes, k) || impl.DeepOf(nodes, k) == 0 {
				t.Errorf("NodeOk or DeepOf at %d", k)
			}
		}
		if !impl.TreeOk(nodes) || !impl.SameTree(nodes, nodes) || impl.TreeOk(room) || impl.SameTree(nodes, room) {
			t.Error("TreeOk or SameTree of a list with spare room")
		}
	}
	if impl.NodeOk(nodes, 5) || !slices.Equal(kids, wantKids) || !impl.SameTree(room, want) {
		t.Errorf("a list is %v, %v behind its calls; want %v, %v", room, kids, want, wantKids)
	}
}
