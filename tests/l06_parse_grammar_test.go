package tests

import (
	"math/rand"
	"regexp"
	"slices"
	"strings"
	"testing"

	"loop.example/g00459/impl"
)

// chainLevels has the marks of chains, from the loosest on.
var chainLevels = [][]string{{"||"}, {"&&"}, {"=="}, {"<"}, {"+", "-"}, {"*"}}

// sourceMaker writes a source by chance of a seed, and makes beside it the nodes that it has, each when it ends.
type sourceMaker struct {
	treeMaker
	chance  *rand.Rand
	out     strings.Builder
	last    string
	signs   int
	ends    []int // of each node: how many signs are written when it ends
	isBlank bool  // an empty line stands ahead of the sign that was written last
}

// sign puts a gap ahead of a sign, of which it may be none where the signs stay apart.
func (m *sourceMaker) sign(text string) {
	gaps := []string{"", "", " ", " ", "  ", "\n", "\n  ", "\n\n", "\n \n", " \n\n\n "}
	gap := gaps[m.chance.Intn(len(gaps))]
	if list, _, ok := signsByForms(m.last + text); gap == "" && m.last != "" && (!ok || len(list) != 2 || list[0].Text != m.last) {
		gap = " "
	}
	if strings.HasPrefix(m.last, "//") && !strings.Contains(gap, "\n") {
		gap += "\n"
	}
	m.out.WriteString(gap + text)
	m.last, m.isBlank = text, strings.Count(gap, "\n") > 1
	m.signs++
}

func (m *sourceMaker) all(texts ...string) {
	for _, text := range texts {
		m.sign(text)
	}
}

func (m *sourceMaker) made(kind int, text string, kids ...int) int {
	m.ends = append(m.ends, m.signs)
	return m.add(kind, text, kids...)
}

func (m *sourceMaker) oneOf(texts ...string) string { return texts[m.chance.Intn(len(texts))] }

func (m *sourceMaker) anyName() string { return m.oneOf("a", "b", "c_1", "Long", "_", "iff", "vars") }

func (m *sourceMaker) nameNode() int {
	name := m.anyName()
	m.sign(name)
	return m.made(impl.NdName, name)
}

func (m *sourceMaker) listed(end string, count int, one func() int) []int {
	kids := []int{}
	for i := range count {
		kids = append(kids, one())
		if i < count-1 || m.chance.Intn(4) == 0 {
			m.sign(",")
		}
	}
	m.sign(end)
	return kids
}

func (m *sourceMaker) value(deep int) int {
	kids := []int{m.pick(deep)}
	if deep > 2 && m.chance.Intn(4) == 0 {
		for range 1 + m.chance.Intn(3) {
			m.sign("..")
			kids = append(kids, m.call(m.nameNode(), deep-2))
		}
		return m.made(impl.NdCascade, "", kids...)
	}
	return kids[0]
}

func (m *sourceMaker) pick(deep int) int {
	if deep > 1 && m.chance.Intn(5) == 0 {
		first := m.chain(0, deep-1, false)
		m.sign("?")
		yes := m.pick(deep - 1)
		m.sign(":")
		return m.made(impl.NdPick, "", first, yes, m.pick(deep-1))
	}
	return m.chain(0, deep, true)
}

// chain is told whether its last value may be an arrow: one that is not at the end would take in what stands behind it.
func (m *sourceMaker) chain(level int, deep int, last bool) int {
	if level == len(chainLevels) {
		return m.tail(deep, last)
	}
	if deep <= 2 || m.chance.Intn(9) > 0 {
		return m.chain(level+1, deep, last)
	}
	marks := chainLevels[level]
	first, runs := m.chance.Intn(len(marks)), 1+m.chance.Intn(2*len(marks)-1)
	value := m.chain(level+1, deep-1, false)
	for run := range runs {
		mark, kids := marks[(first+run)%len(marks)], []int{value}
		for more := m.chance.Intn(3); more >= 0; more-- {
			m.sign(mark)
			kids = append(kids, m.chain(level+1, deep-1, last && run == runs-1 && more == 0))
		}
		value = m.made(impl.NdChain, mark, kids...)
	}
	return value
}

func (m *sourceMaker) tail(deep int, last bool) int {
	more := 0
	if deep > 1 {
		more = max(0, m.chance.Intn(5)-2)
	}
	value := m.base(deep-more, last && more == 0)
	for range more {
		if m.chance.Intn(2) == 0 {
			value = m.call(value, deep-1)
			continue
		}
		name := m.anyName()
		m.all(".", name)
		value = m.made(impl.NdDot, name, value)
	}
	return value
}

func (m *sourceMaker) call(called int, deep int) int {
	m.sign("(")
	values := m.listed(")", m.chance.Intn(3), func() int { return m.value(deep) })
	return m.made(impl.NdCall, "", append([]int{called}, values...)...)
}

func (m *sourceMaker) base(deep int, last bool) int {
	form := m.chance.Intn(3)
	if deep > 1 {
		form = m.chance.Intn(9)
	}
	switch {
	case form == 0:
		text := m.oneOf("0", "12", "007")
		m.sign(text)
		return m.made(impl.NdNum, text)
	case form == 1:
		text := m.oneOf("''", "'x'", "'a // b'", "'if ('")
		m.sign(text)
		return m.made(impl.NdText, text)
	case form == 3 || form == 4:
		m.sign("[")
		return m.made(impl.NdList, "", m.listed("]", m.chance.Intn(4), func() int { return m.value(deep - 1) })...)
	case form == 5 || form == 6:
		m.sign("(")
		value := m.value(deep - 1)
		m.sign(")")
		return m.made(impl.NdPar, "", value)
	case form > 6 && last:
		m.sign("(")
		kids := m.listed(")", m.chance.Intn(3), m.nameNode)
		m.sign("=>")
		return m.made(impl.NdFn, "", append(kids, m.pick(deep-1))...)
	}
	return m.nameNode()
}

// many writes members or statements, and tells which have Blank: none that is the first one.
func (m *sourceMaker) many(count int, one func(begin func(text string)) int) []int {
	kids := []int{}
	for range count {
		blank, begun := false, false
		kid := one(func(text string) {
			m.sign(text)
			if !begun {
				blank, begun = m.isBlank, true
			}
		})
		m.nodes[kid].Blank = blank && len(kids) > 0
		kids = append(kids, kid)
	}
	return kids
}

func (m *sourceMaker) note(begin func(text string)) int {
	text := m.oneOf("//", "// note", "// 'a", "//// }")
	begin(text)
	return m.made(impl.NdNote, text)
}

func (m *sourceMaker) holder(begin func(text string), deep int) int {
	name, kids := m.anyName(), []int{}
	begin("var")
	m.sign(name)
	if m.chance.Intn(3) > 0 {
		m.sign("=")
		kids = append(kids, m.value(deep))
	}
	m.sign(";")
	return m.made(impl.NdVar, name, kids...)
}

func (m *sourceMaker) block(deep int) int {
	m.sign("{")
	steps := m.many(m.chance.Intn(4), func(begin func(text string)) int { return m.step(begin, deep) })
	m.sign("}")
	return m.made(impl.NdBlock, "", steps...)
}

func (m *sourceMaker) step(begin func(text string), deep int) int {
	form := m.chance.Intn(5)
	if deep > 3 {
		form = m.chance.Intn(8)
	}
	switch form {
	case 0:
		return m.note(begin)
	case 1:
		return m.holder(begin, deep-1)
	case 2:
		begin("return")
		kids := []int{}
		if m.chance.Intn(2) == 0 {
			kids = append(kids, m.value(deep-1))
		}
		m.sign(";")
		return m.made(impl.NdReturn, "", kids...)
	case 3:
		name := m.anyName()
		begin(name)
		m.sign("=")
		value := m.value(deep - 1)
		m.sign(";")
		return m.made(impl.NdSet, name, value)
	case 4:
		return m.doing(begin, deep)
	}
	return m.branch(begin, deep)
}

// doing begins with a sign that it writes itself, so that its Blank is known.
func (m *sourceMaker) doing(begin func(text string), deep int) int {
	begin("do_it")
	value := m.call(m.made(impl.NdName, "do_it"), deep-2)
	m.sign(";")
	return m.made(impl.NdDo, "", value)
}

func (m *sourceMaker) branch(begin func(text string), deep int) int {
	kind, word := impl.NdIf, "if"
	if m.chance.Intn(3) == 0 {
		kind, word = impl.NdWhile, "while"
	}
	begin(word)
	m.sign("(")
	kids := []int{m.value(deep - 2)}
	m.sign(")")
	kids = append(kids, m.block(deep-2))
	if kind == impl.NdIf && m.chance.Intn(2) == 0 {
		m.sign("else")
		kids = append(kids, m.block(deep-2))
	}
	return m.made(kind, "", kids...)
}

func (m *sourceMaker) member(begin func(text string), deep int) int {
	switch m.chance.Intn(4) {
	case 0:
		return m.note(begin)
	case 1:
		return m.holder(begin, deep-1)
	}
	name := m.anyName()
	begin(name)
	m.sign("(")
	kids := m.listed(")", m.chance.Intn(4), m.nameNode)
	return m.made(impl.NdMethod, name, append(kids, m.block(deep-1))...)
}

func (m *sourceMaker) fileMember(begin func(text string), deep int) int {
	if m.chance.Intn(3) > 0 {
		return m.member(begin, deep)
	}
	name := m.anyName()
	begin("class")
	m.all(name, "{")
	members := m.many(m.chance.Intn(4), func(begin func(text string)) int { return m.member(begin, deep-1) })
	m.sign("}")
	return m.made(impl.NdClass, name, members...)
}

// anySource tells a source and its nodes, of a tree that is right.
func anySource(seed int64) *sourceMaker {
	for {
		m := &sourceMaker{chance: rand.New(rand.NewSource(seed))}
		members := m.many(m.chance.Intn(6), func(begin func(text string)) int { return m.fileMember(begin, 8) })
		m.made(impl.NdFile, "", members...)
		m.out.WriteString([]string{"", " ", "\n", "\n\n "}[m.chance.Intn(4)])
		if impl.TreeOk(m.nodes) && m.out.Len() <= impl.MaxSource {
			return m
		}
		seed += 1000000
	}
}

func TestReadAnySource(t *testing.T) {
	kinds := map[int]int{}
	for seed := range int64(3000) {
		m := anySource(seed)
		nodes := readTree(t, m.out.String())
		if !impl.SameTree(nodes, m.nodes) {
			t.Fatalf("ReadSource(%q) is\n%v; want\n%v", m.out.String(), nodes, m.nodes)
		}
		for _, node := range nodes {
			kinds[node.Kind]++
		}
	}
	for kind := impl.NdName; kind <= impl.NdFile; kind++ {
		if kinds[kind] < 200 {
			t.Errorf("the sources have the kind %d only %d times", kind, kinds[kind])
		}
	}
}

// TestReadEachNodeAsOneTooMany has so many nodes ahead that each node in turn is the one above MaxNodes: the place is that of the sign behind its last one.
func TestReadEachNodeAsOneTooMany(t *testing.T) {
	const ahead, aheadSigns = "var a;", 3
	asked := 0
	for seed := range int64(25) {
		m := anySource(seed)
		source := m.out.String()
		for k, end := range m.ends {
			all := strings.Repeat(ahead, impl.MaxNodes-k) + source
			list, _, ok := signsByForms(all)
			if !ok {
				continue
			}
			want := len(all)
			if behind := aheadSigns*(impl.MaxNodes-k) + end; behind < len(list) {
				want = list[behind].At
			}
			isNotRead(t, all, want)
			asked++
		}
	}
	// Those that are longer than MaxSource together are left out.
	if asked < 1000 {
		t.Errorf("only %d sources are asked", asked)
	}
}

// sourceGrammar is the chapter's, in productions; FN is a bracket with names, a bracket and `=>` in it, PAR another one.
var sourceGrammar = map[string][]string{
	"file":    {"", "file fmember"},
	"fmember": {"member", "class NAME { members }"},
	"members": {"", "members member"},
	"member":  {"NOTE", "holder", "NAME ( names ) block"},
	"holder":  {"var NAME ;", "var NAME = value ;"},
	"names":   {"", "names1", "names1 ,"},
	"names1":  {"NAME", "names1 , NAME"},
	"block":   {"{ steps }"},
	"steps":   {"", "steps step"},
	"step":    {"NOTE", "holder", "NAME = value ;", "return ;", "return value ;", "if ( value ) block", "if ( value ) block else block", "while ( value ) block", "value ;"},
	"value":   {"pick", "value .. NAME ( values )"},
	"values":  {"", "values1", "values1 ,"},
	"values1": {"value", "values1 , value"},
	"pick":    {"or", "or ? pick : pick"},
	"or":      {"and", "or || and"},
	"and":     {"same", "and && same"},
	"same":    {"less", "same == less"},
	"less":    {"sum", "less < sum"},
	"sum":     {"times", "sum + times", "sum - times"},
	"times":   {"end", "times * end"},
	"end":     {"base", "end ( values )", "end . NAME"},
	"base":    {"NAME", "NUM", "TEXT", "[ values ]", "FN names ) => pick", "PAR value )"},
}

var arrowForm = regexp.MustCompile(`^\( (NAME (, NAME )*(, )?)?\) =>`)

// grammarItem is a production that is read as far as its dot, begun at a sign.
type grammarItem struct {
	head string
	rule int
	dot  int
	from int
}

func (i grammarItem) rest() []string {
	return strings.Fields(sourceGrammar[i.head][i.rule])[i.dot:]
}

// wordsOf tells the signs by the words of the grammar.
func wordsOf(list []impl.Sign) []string {
	words := []string{}
	for _, sign := range list {
		switch {
		case sign.Kind == impl.SgName && !slices.Contains(keyWords, sign.Text):
			words = append(words, "NAME")
		case sign.Kind == impl.SgNum:
			words = append(words, "NUM")
		case sign.Kind == impl.SgText:
			words = append(words, "TEXT")
		case sign.Kind == impl.SgNote:
			words = append(words, "NOTE")
		default:
			words = append(words, sign.Text)
		}
	}
	return words
}

// grammarReader has, ahead of each sign, all items that may be on their way (as Earley reads).
type grammarReader struct {
	sets [][]grammarItem
	seen map[grammarItem]bool
	at   int
}

func (r *grammarReader) put(item grammarItem) {
	if !r.seen[item] {
		r.seen[item] = true
		r.sets[r.at] = append(r.sets[r.at], item)
	}
}

func (r *grammarReader) close() {
	for j := 0; j < len(r.sets[r.at]); j++ {
		item := r.sets[r.at][j]
		rest := item.rest()
		if len(rest) == 0 {
			for _, up := range r.sets[item.from] {
				if left := up.rest(); len(left) > 0 && left[0] == item.head {
					r.put(grammarItem{up.head, up.rule, up.dot + 1, up.from})
				}
			}
			continue
		}
		rules := sourceGrammar[rest[0]]
		for rule := range rules {
			r.put(grammarItem{rest[0], rule, 0, r.at})
		}
		if slices.Contains(rules, "") {
			r.put(grammarItem{item.head, item.rule, item.dot + 1, item.from})
		}
	}
}

// faultByGrammar is how many signs stand ahead of the first one that may not stand there, or of the end; -1 when all is well.
func faultByGrammar(words []string) int {
	r := &grammarReader{sets: [][]grammarItem{nil}, seen: map[grammarItem]bool{}}
	for rule := range sourceGrammar["file"] {
		r.put(grammarItem{"file", rule, 0, 0})
	}
	r.close()
	for i, word := range words {
		bracket := "PAR"
		if word == "(" && arrowForm.MatchString(strings.Join(words[i:], " ")) {
			bracket = "FN"
		}
		r.sets, r.seen, r.at = append(r.sets, nil), map[grammarItem]bool{}, i+1
		for _, item := range r.sets[i] {
			if rest := item.rest(); len(rest) > 0 && (rest[0] == word || word == "(" && rest[0] == bracket) {
				r.put(grammarItem{item.head, item.rule, item.dot + 1, item.from})
			}
		}
		if len(r.sets[i+1]) == 0 {
			return i
		}
		r.close()
	}
	for _, item := range r.sets[len(words)] {
		if item.head == "file" && item.from == 0 && len(item.rest()) == 0 {
			return -1
		}
	}
	return len(words)
}

// isAsByGrammar is for sources that are small enough for all limits.
func isAsByGrammar(t *testing.T, source string) {
	t.Helper()
	list, _, ok := signsByForms(source)
	if !ok {
		t.Fatalf("%q has no signs", source)
	}
	switch fault := faultByGrammar(wordsOf(list)); {
	case fault < 0:
		readTree(t, source)
	case fault < len(list):
		isNotRead(t, source, list[fault].At)
	default:
		isNotRead(t, source, len(source))
	}
}

// eachSign has one sign of each kind, each mark and each key word.
func eachSign() []string {
	return append(append([]string{"q", "5", "'z'", "// note"}, marks...), keyWords...)
}

// spaced joins signs so that each stays what it is.
func spaced(texts []string) string {
	var out strings.Builder
	for _, text := range texts {
		out.WriteString(text)
		if strings.HasPrefix(text, "//") {
			out.WriteString("\n")
		}
		out.WriteString(" ")
	}
	return out.String()
}

func textsIn(source string) []string {
	texts := []string{}
	list, _, _ := signsByForms(source)
	for _, sign := range list {
		texts = append(texts, sign.Text)
	}
	return texts
}

// TestReadTurnedSources leaves out each sign of sources, doubles it, and puts each other one in its place and ahead of it.
func TestReadTurnedSources(t *testing.T) {
	for _, source := range []string{
		"class C { var a = 1; // n\n m(b, c,) { return; } }", "var v; m() { x = 1; f(a,)..g(); }",
		"m() { if (a) { return b; } else { } while (c) { } }", "m() { var d = 'e'; // o\n f = g; h; }",
		"var v = [a, (b), f(), ];", "var v = (a, b,) => c ? d : e;", "var v = () => (a) => [];", "var v = a ? b : (c);", "var v = a + b - c * d < e;", "var v = a || b && c == d;", "var v = a.b(c, d).e..f(g,)..h();",
	} {
		texts := textsIn(source)
		for i := range texts {
			for count := range 3 {
				isAsByGrammar(t, spaced(slices.Replace(slices.Clone(texts), i, i+1, slices.Repeat(texts[i:i+1], count)...)))
			}
			isAsByGrammar(t, strings.TrimSuffix(spaced(texts[:i]), " "))
			for _, sign := range eachSign() {
				isAsByGrammar(t, spaced(slices.Replace(slices.Clone(texts), i, i+1, sign)))
				isAsByGrammar(t, spaced(slices.Insert(slices.Clone(texts), i, sign)))
			}
		}
	}
}

// eachRow hands out all rows of up to so many of the signs.
func eachRow(most int, signs []string, hand func(row []string)) {
	rows := [][]string{{}}
	for size := range most + 1 {
		longer := [][]string{}
		for _, row := range rows {
			hand(row)
			if size == most {
				continue
			}
			for _, sign := range signs {
				longer = append(longer, append(slices.Clone(row), sign))
			}
		}
		rows = longer
	}
}

func TestReadSmallRowsOfSigns(t *testing.T) {
	eachRow(2, eachSign(), func(row []string) {
		isAsByGrammar(t, spaced(row))
		isAsByGrammar(t, "class C { "+spaced(row)+"}")
		isAsByGrammar(t, "m() { "+spaced(row)+"}")
		isAsByGrammar(t, "m() { if (a) { } "+spaced(row)+"}")
		isAsByGrammar(t, "var v = "+spaced(row)+";")
		isAsByGrammar(t, "var v = a "+spaced(row)+"b;")
	})
	// All that may be an arrow, or seem to be one.
	eachRow(5, []string{"a", "(", ")", ",", "=>"}, func(row []string) {
		isAsByGrammar(t, "var v = "+spaced(row)+";")
	})
}

// TestTheGrammarOfTheTests holds the grammar against sources that are made another way.
func TestTheGrammarOfTheTests(t *testing.T) {
	for seed := range int64(60) {
		source := anySource(seed).out.String()
		if fault := faultByGrammar(wordsOf(isRead(t, source))); fault >= 0 {
			t.Errorf("the grammar refuses %q at the sign %d", source, fault)
		}
	}
}
