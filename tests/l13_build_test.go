package tests

import (
	"fmt"
	"math"
	"math/rand"
	"reflect"
	"slices"
	"strings"
	"testing"

	"loop.example/g00459/impl"
)

// mostEnd is how long what stands ahead of a value, or behind it, may be.
const mostEnd = 40

// endsAround has what stands ahead of a value and behind it; each is of whole signs, so that the signs of all of it may be told.
var endsAround = [][2]string{{"", ""}, {"var v =", ";"}, {"v =", ";"}, {"return ", ";"}, {"if (", ") {"}, {"while (", ") {"}, {"=", ""}, {"a ==", ")"}, {"= ", ","}}

// buildStep is one thing that the chapter tells of a value, in its order. A rule goes by the way to the node that has it, whether it is made or not.
type buildStep struct {
	what   string
	text   string
	rule   string
	up     string
	values int
	cost   int
	from   int
	space  bool
	nest   int
}

func written(text string) buildStep { return buildStep{what: "text", text: text} }

// kidWay is the way to a kid: no two nodes on ways from k have the same one, also where they are one node.
func kidWay(way string, i int) string { return fmt.Sprint(way, "/", i) }

// stepsByWord tells a value whose nest is counted in steps of 4.
func stepsByWord(nodes []impl.Node, k int, way string, nest int) []buildStep {
	node, list := nodes[k], []buildStep{}
	put := func(steps ...buildStep) { list = append(list, steps...) }
	kid := func(i int, nest int) { put(stepsByWord(nodes, node.Kids[i], kidWay(way, i), nest)...) }
	rule := func(values int, cost int) { put(buildStep{what: "rule", rule: way, values: values, cost: cost}) }
	split := func(from int, space bool, nest int) {
		put(buildStep{what: "split", rule: way, from: from, space: space, nest: nest})
	}
	tie := func(i int) {
		if nodes[node.Kids[i]].Kind == node.Kind {
			put(buildStep{what: "tie", rule: kidWay(way, i), up: way})
		}
	}
	bracketed := func(begin string, first int, end string) {
		put(written(begin))
		switch count := len(node.Kids) - first; {
		case count == 1:
			rule(2, 1)
			split(1, false, nest+1)
			kid(first, nest+1)
			split(1, false, nest)
		case count > 1:
			rule(3, 1)
			split(1, false, nest+1)
			kid(first, nest+1)
			for i := first + 1; i < len(node.Kids); i++ {
				put(written(","))
				split(2, true, nest+1)
				kid(i, nest+1)
			}
			split(1, false, nest)
		}
		put(written(end))
	}
	switch node.Kind {
	case impl.NdName, impl.NdNum, impl.NdText:
		put(written(node.Text))
	case impl.NdPar:
		put(written("("))
		kid(0, nest)
		put(written(")"))
	case impl.NdDot:
		kid(0, nest)
		put(written("." + node.Text))
	case impl.NdList:
		bracketed("[", 0, "]")
	case impl.NdCall:
		kid(0, nest)
		bracketed("(", 1, ")")
	case impl.NdChain:
		rule(2, 1)
		for i := range node.Kids {
			if i > 0 {
				put(written(" " + node.Text))
				split(1, true, nest+1)
			}
			put(buildStep{what: "begin", rule: kidWay(way, i)})
			kid(i, nest+1)
			tie(i)
			if kind := nodes[node.Kids[i]].Kind; kind != impl.NdName && kind != impl.NdNum && kind != impl.NdText {
				put(buildStep{what: "span", rule: kidWay(way, i)})
			}
		}
	case impl.NdPick:
		rule(2, 1)
		for i, ahead := range []string{"", "? ", ": "} {
			if i > 0 {
				split(1, true, nest+1)
			}
			put(written(ahead))
			kid(i, nest+1)
			tie(i)
		}
	case impl.NdFn:
		names, last := []string{}, len(node.Kids)-1
		for _, name := range node.Kids[:last] {
			names = append(names, nodes[name].Text)
		}
		put(written("(" + strings.Join(names, ", ") + ") =>"))
		rule(2, 2)
		split(1, true, nest+1)
		kid(last, nest+1)
	case impl.NdCascade:
		rule(2, 1)
		kid(0, nest)
		for i := 1; i < len(node.Kids); i++ {
			split(1, false, nest+1)
			put(written(".."))
			kid(i, nest+1)
		}
	}
	return list
}

// pieceBySteps does step by step what was told, within the limits.
func pieceBySteps(steps []buildStep, in int, mostRules int) impl.Piece {
	p, text := impl.Piece{Indent: in}, ""
	rules, begun := map[string]int{}, map[string]int{}
	for _, step := range steps {
		rule, isMade := rules[step.rule]
		switch step.what {
		case "text":
			text += step.text
		case "rule":
			if len(p.Rules) < mostRules {
				rules[step.rule] = len(p.Rules)
				p.Rules = append(p.Rules, impl.Rule{Values: step.values, Cost: step.cost})
			}
		case "split":
			if isMade && len(p.Chunks) < 79 {
				split := impl.Split{Rule: rule, From: step.from, Space: step.space, Nest: min(40, 4*step.nest)}
				p.Chunks = append(p.Chunks, impl.Chunk{Text: text, Split: split})
				text = ""
			} else if step.space {
				text += " "
			}
		case "tie":
			if up, ok := rules[step.up]; ok && isMade && len(p.Ties) < mostTies {
				p.Ties = append(p.Ties, impl.Tie{Kid: rule, Up: up})
			}
		case "begin":
			begun[step.rule] = len(p.Chunks)
		case "span":
			if from, to := begun[step.rule], len(p.Chunks)-1; from <= to && len(p.Spans) < mostSpans {
				p.Spans = append(p.Spans, impl.Span{From: from, To: to, Cost: 1})
			}
		}
	}
	p.Chunks = append(p.Chunks, impl.Chunk{Text: text})
	return p
}

// builtByWord is PieceOf of a value of a depth with ends and an in that are right.
func builtByWord(nodes []impl.Node, k int, pre string, post string, in int) impl.Piece {
	steps := []buildStep{written(pre)}
	if strings.HasSuffix(pre, "=") {
		steps = append(steps, buildStep{what: "rule", rule: "=", values: 2, cost: 2}, buildStep{what: "split", rule: "=", from: 1, space: true, nest: 1})
	}
	steps = append(append(steps, stepsByWord(nodes, k, "k", 0)...), written(post))
	return pieceBySteps(steps, in, impl.MaxRules)
}

func plainByWord(nodes []impl.Node, k int) string {
	return pieceBySteps(stepsByWord(nodes, k, "k", 0), 0, 0).Chunks[0].Text
}

func samePiece(a impl.Piece, b impl.Piece) bool {
	return a.Indent == b.Indent && slices.Equal(a.Rules, b.Rules) && slices.Equal(a.Chunks, b.Chunks) && slices.Equal(a.Spans, b.Spans) && slices.Equal(a.Ties, b.Ties)
}

// chunksIn tells chunks in one line: behind each Text but the last one `{rule from nest}`, or `{rule from _ nest}` with Space.
func chunksIn(p impl.Piece) string {
	line := ""
	for i, chunk := range p.Chunks {
		line += chunk.Text
		split, space := chunk.Split, " "
		if split.Space {
			space = " _ "
		}
		if i < len(p.Chunks)-1 {
			line += fmt.Sprint("{", split.Rule, " ", split.From, space, split.Nest, "}")
		}
	}
	return line
}

// rulesIn tells the Values and Cost of each rule, from and to of each span that costs 1, and kid and up of each tie.
func rulesIn(p impl.Piece) string {
	parts := []string{}
	for _, rule := range p.Rules {
		parts = append(parts, fmt.Sprint(rule.Values, "/", rule.Cost))
	}
	for _, span := range p.Spans {
		if span.Cost != 1 {
			parts = append(parts, fmt.Sprint("a span of Cost ", span.Cost))
		}
		parts = append(parts, fmt.Sprint(span.From, "-", span.To))
	}
	for _, tie := range p.Ties {
		parts = append(parts, fmt.Sprint(tie.Kid, ">", tie.Up))
	}
	return strings.Join(parts, " ")
}

// valueIn reads a value, and tells the nodes and its place.
func valueIn(t *testing.T, value string) ([]impl.Node, int) {
	t.Helper()
	nodes := readTree(t, "var v = "+value+";")
	return nodes, nodes[len(nodes)-2].Kids[0]
}

// someLists has all right lists of a piece with few, and else none split, all split, and each rule alone.
func someLists(p impl.Piece) [][]int {
	if impl.CountOf(p) <= 256 {
		return rightLists(p)
	}
	lists := [][]int{make([]int, len(p.Rules)), impl.AllSplit(p)}
	for i, rule := range p.Rules {
		for value := 1; value < rule.Values; value++ {
			alone := make([]int, len(p.Rules))
			alone[i] = value
			lists = append(lists, alone)
		}
	}
	return lists
}

// textsOf tells the Texts of the signs that lines have; each line by itself, as all of them may be more than a source.
func textsOf(t *testing.T, lines ...string) []string {
	t.Helper()
	texts := []string{}
	for _, line := range lines {
		list, at, ok := impl.SignsOf(line)
		if !ok {
			t.Fatalf("%q are no signs at %d", line, at)
		}
		for _, sign := range list {
			texts = append(texts, sign.Text)
		}
	}
	return texts
}

// tellsItsSigns holds promise 13: the piece is right, and, however it is split, has the signs of what it was built of, in order.
func tellsItsSigns(t *testing.T, p impl.Piece, nodes []impl.Node, k int, pre string, post string) {
	t.Helper()
	if !impl.PieceOk(p) || !pieceByWord(p) {
		t.Fatalf("the piece of the value %d of %v is not right: %+v", k, nodes, p)
	}
	listsTellSigns(t, p, someLists(p), nodes, k, pre, post)
}

func listsTellSigns(t *testing.T, p impl.Piece, lists [][]int, nodes []impl.Node, k int, pre string, post string) {
	t.Helper()
	want := slices.Concat(textsOf(t, pre), signsByForm(nodes, k), textsOf(t, post))
	for _, v := range lists {
		if lines := impl.Render(p, v); len(lines) == 0 || !slices.Equal(textsOf(t, lines...), want) {
			t.Fatalf("with %v the piece of the value %d of %v is\n%s", v, k, nodes, strings.Join(lines, "\n"))
		}
	}
}

// isPlain holds the line without a split against PlainOf.
func isPlain(t *testing.T, p impl.Piece, plain string, pre string, post string, in int) {
	t.Helper()
	if strings.HasSuffix(pre, "=") {
		pre += " "
	}
	want := blanks(in) + pre + plain + post
	if lines := impl.Render(p, make([]int, len(p.Rules))); len(lines) != 1 || lines[0] != want {
		t.Fatalf("not split it is %q; want %q", lines, want)
	}
}

// isBuilt holds PieceOf and PlainOf of a value of a depth against the chapter's words.
func isBuilt(t *testing.T, nodes []impl.Node, k int, pre string, post string, in int) impl.Piece {
	t.Helper()
	p, ok := impl.PieceOf(nodes, k, pre, post, in)
	if want := builtByWord(nodes, k, pre, post, in); !ok || !samePiece(p, want) {
		t.Fatalf("PieceOf(%v, %d, %q, %q, %d) is\n%+v, %v; want\n%+v", nodes, k, pre, post, in, p, ok, want)
	}
	plain := impl.PlainOf(nodes, k)
	if want := plainByWord(nodes, k); plain != want {
		t.Fatalf("PlainOf(%v, %d) is %q; want %q", nodes, k, plain, want)
	}
	isPlain(t, p, plain, pre, post, in)
	return p
}

func isBuiltWithSigns(t *testing.T, nodes []impl.Node, k int, pre string, post string, in int) impl.Piece {
	t.Helper()
	p := isBuilt(t, nodes, k, pre, post, in)
	tellsItsSigns(t, p, nodes, k, pre, post)
	return p
}

// nodeBuilds is for a value without ends, the chunks, rules, spans and ties of which are told by hand.
func nodeBuilds(t *testing.T, nodes []impl.Node, k int, chunks string, rules string) {
	t.Helper()
	p := isBuiltWithSigns(t, nodes, k, "", "", 0)
	if chunksIn(p) != chunks || rulesIn(p) != rules {
		t.Errorf("the value %d of %v is built as\n%s with %s; want\n%s with %s", k, nodes, chunksIn(p), rulesIn(p), chunks, rules)
	}
}

func builds(t *testing.T, value string, chunks string, rules string) {
	t.Helper()
	nodes, k := valueIn(t, value)
	nodeBuilds(t, nodes, k, chunks, rules)
	if plain := impl.PlainOf(nodes, k); plain != value {
		t.Errorf("PlainOf of %q is %q", value, plain)
	}
	for i, ends := range endsAround {
		isBuiltWithSigns(t, nodes, k, ends[0], ends[1], 7*i)
	}
}

// buildsWith is builds with ends.
func buildsWith(t *testing.T, pre string, value string, post string, chunks string, rules string) {
	t.Helper()
	nodes, k := valueIn(t, value)
	p := isBuilt(t, nodes, k, pre, post, 0)
	if chunksIn(p) != chunks || rulesIn(p) != rules {
		t.Errorf("%q with %q and %q is built as\n%s with %s; want\n%s with %s", value, pre, post, chunksIn(p), rulesIn(p), chunks, rules)
	}
}

// nothingIsBuilt asks for nothing and false; PlainOf hangs on the value alone.
func nothingIsBuilt(t *testing.T, why string, nodes []impl.Node, k int, pre string, post string, in int) {
	t.Helper()
	p, ok := impl.PieceOf(nodes, k, pre, post, in)
	if ok || !samePiece(p, impl.Piece{}) {
		t.Errorf("PieceOf with %s is %+v, %v", why, p, ok)
	}
}

func isNoValue(t *testing.T, why string, nodes []impl.Node, k int) {
	t.Helper()
	nothingIsBuilt(t, why, nodes, k, "", "", 0)
	nothingIsBuilt(t, why, nodes, k, "var v =", ";", 60)
	if plain := impl.PlainOf(nodes, k); plain != "" {
		t.Errorf("PlainOf with %s is %q", why, plain)
	}
}

func TestBuildThePieceOfTheDocument(t *testing.T) {
	buildsWith(t, "var v =", "f(a, b + c)", ";", "var v ={0 1 _ 4}f({1 1 4}a,{1 2 _ 4}b +{2 1 _ 8}c{1 1 0});", "2/2 3/1 2/1")
	nodes, k := valueIn(t, "f(a, b + c)")
	p, ok := impl.PieceOf(nodes, k, "var v =", ";", 2)
	want := impl.Piece{
		Indent: 2,
		Rules:  []impl.Rule{{Values: 2, Cost: 2}, {Values: 3, Cost: 1}, {Values: 2, Cost: 1}},
		Chunks: []impl.Chunk{
			{Text: "var v =", Split: impl.Split{Rule: 0, From: 1, Space: true, Nest: 4}},
			{Text: "f(", Split: impl.Split{Rule: 1, From: 1, Nest: 4}},
			{Text: "a,", Split: impl.Split{Rule: 1, From: 2, Space: true, Nest: 4}},
			{Text: "b +", Split: impl.Split{Rule: 2, From: 1, Space: true, Nest: 8}},
			{Text: "c", Split: impl.Split{Rule: 1, From: 1}},
			{Text: ");"},
		},
	}
	if !ok || !samePiece(p, want) {
		t.Errorf("the piece is %+v, %v", p, ok)
	}
	rendersAs(t, p, []int{0, 0, 0}, "  var v = f(a, b + c);")
	rendersAs(t, p, []int{1, 0, 0}, "  var v =", "      f(a, b + c);")
	rendersAs(t, p, []int{0, 1, 0}, "  var v = f(", "      a, b + c", "  );")
	rendersAs(t, p, []int{0, 2, 1}, "  var v = f(", "      a,", "      b +", "          c", "  );")
}

func TestBuildLeaves(t *testing.T) {
	builds(t, "a", "a", "")
	builds(t, "a_long_name_of_thirty_bytes_12", "a_long_name_of_thirty_bytes_12", "")
	builds(t, "007", "007", "")
	builds(t, "''", "''", "")
	builds(t, "'a + b, [c] = '", "'a + b, [c] = '", "")
	// All bytes that a text may have: 39 is the one that ends it.
	all := "'" + allBytes()[32:39] + allBytes()[40:127] + "'"
	builds(t, all, all, "")
}

func TestBuildBracketsAndDots(t *testing.T) {
	builds(t, "(a)", "(a)", "")
	builds(t, "((1))", "((1))", "")
	builds(t, "a.b", "a.b", "")
	builds(t, "a.b.c", "a.b.c", "")
	builds(t, "('t').b", "('t').b", "")
	builds(t, "1.b", "1.b", "")
	// What is in brackets, and what stands ahead of a dot, is in the Nest around them.
	builds(t, "(a + b)", "(a +{0 1 _ 4}b)", "2/1")
	builds(t, "((a + b)).c", "((a +{0 1 _ 4}b)).c", "2/1")
	builds(t, "[(a + b).c]", "[{0 1 4}(a +{1 1 _ 8}b).c{0 1 0}]", "2/1 2/1")
	builds(t, "(([a])).b.c", "(([{0 1 4}a{0 1 0}])).b.c", "2/1")
}

func TestBuildLists(t *testing.T) {
	builds(t, "[]", "[]", "")
	builds(t, "[a]", "[{0 1 4}a{0 1 0}]", "2/1")
	builds(t, "[a, b]", "[{0 1 4}a,{0 2 _ 4}b{0 1 0}]", "3/1")
	builds(t, "[1, 'x', c]", "[{0 1 4}1,{0 2 _ 4}'x',{0 2 _ 4}c{0 1 0}]", "3/1")
	builds(t, "[[]]", "[{0 1 4}[]{0 1 0}]", "2/1")
	builds(t, "[[], []]", "[{0 1 4}[],{0 2 _ 4}[]{0 1 0}]", "3/1")
	builds(t, "[[a]]", "[{0 1 4}[{1 1 8}a{1 1 4}]{0 1 0}]", "2/1 2/1")
	builds(t, "[[a], [b, c]]", "[{0 1 4}[{1 1 8}a{1 1 4}],{0 2 _ 4}[{2 1 8}b,{2 2 _ 8}c{2 1 4}]{0 1 0}]", "3/1 2/1 3/1")
	between := ",{0 2 _ 4}a"
	builds(t, "[a"+strings.Repeat(", a", 11)+"]", "[{0 1 4}a"+strings.Repeat(between, 11)+"{0 1 0}]", "3/1")
}

func TestBuildCalls(t *testing.T) {
	builds(t, "f()", "f()", "")
	builds(t, "f()()", "f()()", "")
	builds(t, "f(a)", "f({0 1 4}a{0 1 0})", "2/1")
	builds(t, "f(a, b)", "f({0 1 4}a,{0 2 _ 4}b{0 1 0})", "3/1")
	builds(t, "f(a, b, c)", "f({0 1 4}a,{0 2 _ 4}b,{0 2 _ 4}c{0 1 0})", "3/1")
	builds(t, "f(a"+strings.Repeat(", a", 10)+")", "f({0 1 4}a"+strings.Repeat(",{0 2 _ 4}a", 10)+"{0 1 0})", "3/1")
	// What is called comes first, and is in the Nest around.
	builds(t, "f(a)(b, c)", "f({0 1 4}a{0 1 0})({1 1 4}b,{1 2 _ 4}c{1 1 0})", "2/1 3/1")
	builds(t, "[a](b)", "[{0 1 4}a{0 1 0}]({1 1 4}b{1 1 0})", "2/1 2/1")
	builds(t, "[f(a)(b)]", "[{0 1 4}f({1 1 8}a{1 1 4})({2 1 8}b{2 1 4}){0 1 0}]", "2/1 2/1 2/1")
	builds(t, "a.f(b).g(c, d)", "a.f({0 1 4}b{0 1 0}).g({1 1 4}c,{1 2 _ 4}d{1 1 0})", "2/1 3/1")
	builds(t, "f(g(a), h())", "f({0 1 4}g({1 1 8}a{1 1 4}),{0 2 _ 4}h(){0 1 0})", "3/1 2/1")
	builds(t, "(a + b)(c)", "(a +{0 1 _ 4}b)({1 1 4}c{1 1 0})", "2/1 2/1")
}

func TestBuildChains(t *testing.T) {
	for _, mark := range []string{"&&", "||", "==", "<", "+", "-", "*"} {
		builds(t, "a "+mark+" b", "a "+mark+"{0 1 _ 4}b", "2/1")
		builds(t, "a "+mark+" 1 "+mark+" 'c'", "a "+mark+"{0 1 _ 4}1 "+mark+"{0 1 _ 4}'c'", "2/1")
	}
	builds(t, "a"+strings.Repeat(" + a", 11), "a"+strings.Repeat(" +{0 1 _ 4}a", 11), "2/1")
	// Kids that are no names, numbers or texts, and end no chunk, have no span.
	builds(t, "f() + a.b + [] + (c)", "f() +{0 1 _ 4}a.b +{0 1 _ 4}[] +{0 1 _ 4}(c)", "2/1")
}

func TestBuildChainsInChains(t *testing.T) {
	builds(t, "a + b * c", "a +{0 1 _ 4}b *{1 1 _ 8}c", "2/1 2/1 1-1 1>0")
	builds(t, "a * b + c", "a *{1 1 _ 8}b +{0 1 _ 4}c", "2/1 2/1 0-0 1>0")
	builds(t, "a - b + c", "a -{1 1 _ 8}b +{0 1 _ 4}c", "2/1 2/1 0-0 1>0")
	builds(t, "a * b + c * d * e", "a *{1 1 _ 8}b +{0 1 _ 4}c *{2 1 _ 8}d *{2 1 _ 8}e", "2/1 2/1 2/1 0-0 2-3 1>0 2>0")
	builds(t, "a && b == c < d + e * f",
		"a &&{0 1 _ 4}b =={1 1 _ 8}c <{2 1 _ 12}d +{3 1 _ 16}e *{4 1 _ 20}f",
		"2/1 2/1 2/1 2/1 2/1 4-4 3-4 2-4 1-4 4>3 3>2 2>1 1>0")
	// Each kid is tied and spanned when it is built, ahead of what is in the next one.
	builds(t, "a + b * c < d + e * f",
		"a +{1 1 _ 8}b *{2 1 _ 12}c <{0 1 _ 4}d +{3 1 _ 8}e *{4 1 _ 12}f",
		"2/1 2/1 2/1 2/1 2/1 1-1 0-1 4-4 3-4 2>1 1>0 4>3 3>0")
	// Brackets between them leave a span, and no tie.
	builds(t, "(a + b) * c", "(a +{1 1 _ 8}b) *{0 1 _ 4}c", "2/1 2/1 0-0")
	builds(t, "a * (b + c)", "a *{0 1 _ 4}(b +{1 1 _ 8}c)", "2/1 2/1 1-1")
}

func TestBuildKidsOfChains(t *testing.T) {
	builds(t, "f(a) + b", "f({1 1 8}a{1 1 4}) +{0 1 _ 4}b", "2/1 2/1 0-1")
	builds(t, "a + [b, c] + d", "a +{0 1 _ 4}[{1 1 8}b,{1 2 _ 8}c{1 1 4}] +{0 1 _ 4}d", "2/1 3/1 1-3")
	builds(t, "a + f(b).c + g()", "a +{0 1 _ 4}f({1 1 8}b{1 1 4}).c +{0 1 _ 4}g()", "2/1 2/1 1-2")
	builds(t, "(a ? b : c) + d", "(a{1 1 _ 8}? b{1 1 _ 8}: c) +{0 1 _ 4}d", "2/1 2/1 0-1")
	builds(t, "a + () => b", "a +{0 1 _ 4}() =>{1 1 _ 8}b", "2/1 2/2 1-1")
	builds(t, "a + (b..f())", "a +{0 1 _ 4}(b{1 1 8}..f())", "2/1 2/1 1-1")
	builds(t, "f(a) + g(b)", "f({1 1 8}a{1 1 4}) +{0 1 _ 4}g({2 1 8}b{2 1 4})", "2/1 2/1 2/1 0-1 3-4")
	// A chain that is no kid of a chain itself has no tie, and a span over the whole kid.
	builds(t, "a + f(b * c)", "a +{0 1 _ 4}f({1 1 8}b *{2 1 _ 12}c{1 1 4})", "2/1 2/1 2/1 1-3")
}

func TestBuildPicks(t *testing.T) {
	builds(t, "a ? b : c", "a{0 1 _ 4}? b{0 1 _ 4}: c", "2/1")
	builds(t, "a ? b : c ? d : e", "a{0 1 _ 4}? b{0 1 _ 4}: c{1 1 _ 8}? d{1 1 _ 8}: e", "2/1 2/1 1>0")
	builds(t, "a ? b ? c : d : e", "a{0 1 _ 4}? b{1 1 _ 8}? c{1 1 _ 8}: d{0 1 _ 4}: e", "2/1 2/1 1>0")
	builds(t, "a ? b ? c : d : e ? f : g", "a{0 1 _ 4}? b{1 1 _ 8}? c{1 1 _ 8}: d{0 1 _ 4}: e{2 1 _ 8}? f{2 1 _ 8}: g", "2/1 2/1 2/1 1>0 2>0")
	builds(t, "a ? b ? c : d ? e : f : g",
		"a{0 1 _ 4}? b{1 1 _ 8}? c{1 1 _ 8}: d{2 1 _ 12}? e{2 1 _ 12}: f{0 1 _ 4}: g", "2/1 2/1 2/1 2>1 1>0")
	builds(t, "(a ? b : c) ? d : e", "(a{1 1 _ 8}? b{1 1 _ 8}: c){0 1 _ 4}? d{0 1 _ 4}: e", "2/1 2/1")
	// A chain in a pick has neither a tie nor a span.
	builds(t, "a < b ? c + d : e", "a <{1 1 _ 8}b{0 1 _ 4}? c +{2 1 _ 8}d{0 1 _ 4}: e", "2/1 2/1 2/1")
	builds(t, "a ? f(b) : [c]", "a{0 1 _ 4}? f({1 1 8}b{1 1 4}){0 1 _ 4}: [{2 1 8}c{2 1 4}]", "2/1 2/1 2/1")
}

func TestBuildArrows(t *testing.T) {
	builds(t, "() => a", "() =>{0 1 _ 4}a", "2/2")
	builds(t, "(a) => b", "(a) =>{0 1 _ 4}b", "2/2")
	builds(t, "(a, b) => c", "(a, b) =>{0 1 _ 4}c", "2/2")
	builds(t, "(a, b, c, d) => e", "(a, b, c, d) =>{0 1 _ 4}e", "2/2")
	builds(t, "(a) => (b) => c", "(a) =>{0 1 _ 4}(b) =>{1 1 _ 8}c", "2/2 2/2")
	builds(t, "(a) => b + c", "(a) =>{0 1 _ 4}b +{1 1 _ 8}c", "2/2 2/1")
	builds(t, "f((a) => g(a), b)", "f({0 1 4}(a) =>{1 1 _ 8}g({2 1 12}a{2 1 8}),{0 2 _ 4}b{0 1 0})", "3/1 2/2 2/1")
	names := strings.TrimSuffix(strings.Repeat("a, ", 11), ", ")
	builds(t, "("+names+") => b", "("+names+") =>{0 1 _ 4}b", "2/2")
}

func TestBuildCascades(t *testing.T) {
	builds(t, "a..f()", "a{0 1 4}..f()", "2/1")
	builds(t, "a..f()..g()", "a{0 1 4}..f(){0 1 4}..g()", "2/1")
	builds(t, "a..f(b)..g(c, d)", "a{0 1 4}..f({1 1 8}b{1 1 4}){0 1 4}..g({2 1 8}c,{2 2 _ 8}d{2 1 4})", "2/1 2/1 3/1")
	// The rule of a cascade is made ahead of what it begins with, which is in the Nest around.
	builds(t, "f(a)..g()", "f({1 1 4}a{1 1 0}){0 1 4}..g()", "2/1 2/1")
	builds(t, "a + b..f()", "a +{1 1 _ 4}b{0 1 4}..f()", "2/1 2/1")
	builds(t, "[a..f(b)]", "[{0 1 4}a{1 1 8}..f({2 1 12}b{2 1 8}){0 1 0}]", "2/1 2/1 2/1")
	builds(t, "1..f()", "1{0 1 4}..f()", "2/1")
	builds(t, "a"+strings.Repeat("..f()", 11), "a"+strings.Repeat("{0 1 4}..f()", 11), "2/1")
}

func TestBuildTreesThatAreNotRead(t *testing.T) {
	for _, c := range []struct{ lines, chunks, rules string }{
		{"name a/name b/chain + 0 1/name c/chain + 2 3", "a +{1 1 _ 8}b +{0 1 _ 4}c", "2/1 2/1 0-0 1>0"},
		{"name a/name b/chain + 0 1/name c/chain * 3 2", "c *{0 1 _ 4}a +{1 1 _ 8}b", "2/1 2/1 1-1 1>0"},
		{"name a/name b/name c/pick 0 1 2/pick 3 0 1", "a{1 1 _ 8}? b{1 1 _ 8}: c{0 1 _ 4}? a{0 1 _ 4}: b", "2/1 2/1 1>0"},
		{"name a/name b/name c/pick 0 1 2/name d/pick 4 3 0/pick 0 5 3",
			"a{0 1 _ 4}? d{1 1 _ 8}? a{2 1 _ 12}? b{2 1 _ 12}: c{1 1 _ 8}: a{0 1 _ 4}: a{3 1 _ 8}? b{3 1 _ 8}: c", "2/1 2/1 2/1 2/1 2>1 1>0 3>0"},
		{"name a/name b/name c/pick 0 1 2/chain + 3 0", "a{1 1 _ 8}? b{1 1 _ 8}: c +{0 1 _ 4}a", "2/1 2/1 0-1"},
		{"name a/name b/chain < 0 1/pick 2 0 1/pick 2 3 0", "a <{1 1 _ 8}b{0 1 _ 4}? a <{3 1 _ 12}b{2 1 _ 8}? a{2 1 _ 8}: b{0 1 _ 4}: a", "2/1 2/1 2/1 2/1 2>0"},
		// Without a call a cascade has a rule, and no split by it.
		{"name a/cascade 0", "a", "2/1"},
		{"name a/cascade 0/list 1", "[{0 1 4}a{0 1 0}]", "2/1 2/1"},
		{"name a/name b/chain + 0 1/cascade 2", "a +{1 1 _ 4}b", "2/1 2/1"},
		{"name a/fn 0/dot b 1", "() =>{0 1 _ 4}a.b", "2/2"},
		{"name a/fn 0/call 1 0", "() =>{0 1 _ 4}a({1 1 4}a{1 1 0})", "2/2 2/1"},
		// One node may be a kid of several, and is built anew for each.
		{"name a/list 0/list 1 0/chain * 2 1", "[{1 1 8}[{2 1 12}a{2 1 8}],{1 2 _ 8}a{1 1 4}] *{0 1 _ 4}[{3 1 8}a{3 1 4}]", "2/1 3/1 2/1 2/1 0-4 6-7"},
		{"name f/name a/call 0 1/cascade 2 2", "", ""},
		{"name f/name a/call 0 1/cascade 1 2", "a{0 1 4}..f({1 1 8}a{1 1 4})", "2/1 2/1"},
		{"name if/name else/chain == 0 1", "if =={0 1 _ 4}else", "2/1"},
	} {
		nodes := nodesOf(strings.Split(c.lines, "/"))
		last := len(nodes) - 1
		if c.chunks == "" {
			isNoValue(t, c.lines, nodes, last)
			continue
		}
		nodeBuilds(t, nodes, last, c.chunks, c.rules)
		for _, ends := range endsAround {
			isBuiltWithSigns(t, nodes, last, ends[0], ends[1], 3)
		}
	}
}

func TestBuildWithEnds(t *testing.T) {
	buildsWith(t, "", "a", "", "a", "")
	buildsWith(t, "", "a", ";", "a;", "")
	buildsWith(t, "return ", "a", ";", "return a;", "")
	buildsWith(t, "return", "a", "b", "returnab", "")
	buildsWith(t, "var v =", "a", ";", "var v ={0 1 _ 4}a;", "2/2")
	buildsWith(t, "=", "a", "", "={0 1 _ 4}a", "2/2")
	buildsWith(t, "==", "a", "=", "=={0 1 _ 4}a=", "2/2")
	buildsWith(t, "= ", "a", "", "= a", "")
	buildsWith(t, "=>", "a", "", "=>a", "")
	buildsWith(t, " ", "a", "  ", " a  ", "")
	buildsWith(t, "if (", "a && b", ") {", "if (a &&{0 1 _ 4}b) {", "2/1")
	buildsWith(t, "v =", "a + b * c", ";", "v ={0 1 _ 4}a +{1 1 _ 4}b *{2 1 _ 8}c;", "2/2 2/1 2/1 2-2 2>1")
	buildsWith(t, "v =", "f(a)..g(b)", ";", "v ={0 1 _ 4}f({2 1 4}a{2 1 0}){1 1 4}..g({3 1 8}b{3 1 4});", "2/2 2/1 2/1 2/1")
	buildsWith(t, "v =", "[]", ";", "v ={0 1 _ 4}[];", "2/2")
	buildsWith(t, "v =", "f(a) < g(b)", ";", "v ={0 1 _ 4}f({2 1 8}a{2 1 4}) <{1 1 _ 4}g({3 1 8}b{3 1 4});", "2/2 2/1 2/1 2/1 1-2 4-5")
}

func TestBuildRendersValuesInOneAnother(t *testing.T) {
	nodes, k := valueIn(t, "f(a ? [b] : c, (d) => e..g(1))(2 + 3 * 4)")
	p := isBuiltWithSigns(t, nodes, k, "v =", ";", 2)
	// The eighth rule is that of the second call, so that there is none for what is in it.
	if got := rulesIn(p); got != "2/2 3/1 2/1 2/1 2/1 2/2 2/1 2/1" {
		t.Errorf("the rules are %s", got)
	}
	rendersAs(t, p, make([]int, len(p.Rules)), "  v = f(a ? [b] : c, (d) => e..g(1))(2 + 3 * 4);")
	rendersAs(t, p, impl.AllSplit(p),
		"  v =", "      f(", "      a", "          ? [", "              b", "          ]", "          : c,", "      (d) =>", "          e", "          ..g(", "              1", "          )", "  )(", "      2 + 3 * 4", "  );")
	nodes, k = valueIn(t, "f(a ? [b] : c, (d) => e)..g(1, 2)")
	p = isBuiltWithSigns(t, nodes, k, "v =", ";", 2)
	rendersAs(t, p, impl.AllSplit(p),
		"  v =", "      f(", "      a", "          ? [", "              b", "          ]", "          : c,", "      (d) =>", "          e", "  )", "      ..g(", "          1,", "          2", "      );")
}

// kindsPlain has a value of each kind that makes a rule, as it stands in a line.
var kindsPlain = []string{"[a]", "[a, b]", "f(a)", "f(a, b, c)", "a + b", "a ? b : c", "() => a", "(a, b) => c", "a..f()", "a..f(b, c)..g()", "f(a ? b : c)..g([h])"}

func TestBuildTheMostRules(t *testing.T) {
	begin := "[{0 1 4}[{1 1 8}[{2 1 12}[{3 1 16}[{4 1 20}[{5 1 24}[{6 1 28}["
	end := "]{6 1 24}]{5 1 20}]{4 1 16}]{3 1 12}]{2 1 8}]{1 1 4}]{0 1 0}]"
	rules := strings.TrimSpace(strings.Repeat("2/1 ", 8))
	builds(t, "[[[[[[[[a]]]]]]]]", begin+"{7 1 32}a{7 1 28}"+end, rules)
	builds(t, "[[[[[[[[[a]]]]]]]]]", begin+"{7 1 32}[a]{7 1 28}"+end, rules)
	for _, value := range kindsPlain {
		builds(t, "[[[[[[[["+value+"]]]]]]]]", begin+"{7 1 32}"+value+"{7 1 28}"+end, rules)
	}
	// One less, and the innermost one is the last that is made.
	builds(t, "[[[[[[[[]]]]]]]]", begin[:len(begin)-1]+"[]"+end[1:], strings.TrimSpace(strings.Repeat("2/1 ", 7)))
	// The rule of `=` counts, too.
	buildsWith(t, "v =", "[[[[[[[[a]]]]]]]]", ";",
		"v ={0 1 _ 4}[{1 1 4}[{2 1 8}[{3 1 12}[{4 1 16}[{5 1 20}[{6 1 24}[{7 1 28}[a]{7 1 24}]{6 1 20}]{5 1 16}]{4 1 12}]{3 1 8}]{2 1 4}]{1 1 0}];",
		"2/2 "+strings.TrimSpace(strings.Repeat("2/1 ", 7)))
}

func TestBuildTheMostRulesInARow(t *testing.T) {
	chunks, rules := "f", strings.Repeat("2/1 ", 7)+"2/1"
	for rule := range impl.MaxRules {
		chunks += fmt.Sprintf("({%d 1 4}a{%d 1 0})", rule, rule)
	}
	builds(t, "f"+strings.Repeat("(a)", 8), chunks, rules)
	for more := 1; more <= 3; more++ {
		builds(t, "f"+strings.Repeat("(a)", 8+more), chunks+strings.Repeat("(a)", more), rules)
	}
	builds(t, "f"+strings.Repeat("(a)", 8)+"(b, c)", chunks+"(b, c)", rules)
	buildsWith(t, "v =", "f"+strings.Repeat("(a)", 7)+"(b, c)", ";",
		"v ={0 1 _ 4}f({1 1 4}a{1 1 0})({2 1 4}a{2 1 0})({3 1 4}a{3 1 0})({4 1 4}a{4 1 0})({5 1 4}a{5 1 0})({6 1 4}a{6 1 0})({7 1 4}a{7 1 0})(b, c);",
		"2/2 "+strings.Repeat("2/1 ", 6)+"2/1")
	// The chain is the first rule; the last of its kids has none, and so neither a span nor a tie.
	builds(t, "a * a + a * a + a * a + a * a + a * a + a * a + a * a + b * b",
		"a *{1 1 _ 8}a +{0 1 _ 4}a *{2 1 _ 8}a +{0 1 _ 4}a *{3 1 _ 8}a +{0 1 _ 4}a *{4 1 _ 8}a +{0 1 _ 4}a *{5 1 _ 8}a +{0 1 _ 4}a *{6 1 _ 8}a +{0 1 _ 4}a *{7 1 _ 8}a +{0 1 _ 4}b * b",
		rules+" 0-0 2-2 4-4 6-6 8-8 10-10 12-12 1>0 2>0 3>0 4>0 5>0 6>0 7>0")
}

// TestBuildTheMostSpansAndTies has as many as MaxRules leave room for: each is of a rule in a rule, so that the chapter's 40 and 20 are never passed.
func TestBuildTheMostSpansAndTies(t *testing.T) {
	m := &treeMaker{}
	last := m.name()
	for range 12 {
		last = m.add(impl.NdChain, "+", m.name(), last)
	}
	p := isBuiltWithSigns(t, m.nodes, last, "", "", 0)
	if got, want := rulesIn(p), strings.Repeat("2/1 ", 8)+"7-7 6-7 5-7 4-7 3-7 2-7 1-7 7>6 6>5 5>4 4>3 3>2 2>1 1>0"; got != want {
		t.Errorf("the rules, spans and ties are %s", got)
	}
	// The Nest goes 4 further in for each rule: 32 at most, and never the 40 that it may be.
	if got, want := chunksIn(p), "a +{0 1 _ 4}a +{1 1 _ 8}a +{2 1 _ 12}a +{3 1 _ 16}a +{4 1 _ 20}a +{5 1 _ 24}a +{6 1 _ 28}a +{7 1 _ 32}a + a + a + a + a"; got != want {
		t.Errorf("the chunks are %s", got)
	}
	m = &treeMaker{}
	last = m.name()
	for range 12 {
		last = m.add(impl.NdPick, "", m.name(), m.name(), last)
	}
	p = isBuiltWithSigns(t, m.nodes, last, "v =", ";", 0)
	if got, want := rulesIn(p), "2/2 "+strings.Repeat("2/1 ", 7)+"7>6 6>5 5>4 4>3 3>2 2>1"; got != want {
		t.Errorf("the rules, spans and ties are %s", got)
	}
}

// fullLists has a list of 12 values, the first ones lists of 12 names, and then others.
func fullLists(lists int, others ...string) string {
	full := "[a" + strings.Repeat(", a", 11) + "]"
	values := append(slices.Repeat([]string{full}, lists), others...)
	for len(values) < mostKids {
		values = append(values, "b")
	}
	return "[" + strings.Join(values, ", ") + "]"
}

func TestBuildTheMostChunks(t *testing.T) {
	for _, c := range []struct {
		pre, value, last string
		ended            int
	}{
		{"v =", fullLists(5), "];", 79},
		{"v ", fullLists(5), "];", 78},
		// The splits at the end are those that there is no room for.
		{"v =", fullLists(5, "b", "b", "b", "b", "b", "b", "b + c"), "c];", 79},
		{"v =", fullLists(5, "b", "b", "b", "b", "b", "b", "b + c + d"), "c + d];", 79},
		{"v =", fullLists(5, "b", "b", "b", "b", "b", "b", "f(b)"), "b)];", 79},
		{"v =", fullLists(5, "b", "b", "b", "b", "b", "b", "f(b, c)"), "b, c)];", 79},
		{"v =", fullLists(5, "b", "b", "b", "b", "b", "b", "b ? c : d"), "? c : d];", 79},
		{"v =", fullLists(5, "b", "b", "b", "b", "b", "b", "(b) => c"), "c];", 79},
		{"v =", fullLists(5, "b", "b", "b", "b", "b", "b", "b..f()..g()"), "..f()..g()];", 79},
		{"v =", fullLists(5, "f(c)"), "b, b];", 79},
		{"v ", fullLists(5, "f(c)"), "b];", 79},
		{"v =", fullLists(6), "a, a, a, a, a, a], b, b, b, b, b, b];", 79},
		{"v ", fullLists(7), "a, a, a, a, a], [a, a, a, a, a, a, a, a, a, a, a, a], b, b, b, b, b];", 79},
	} {
		nodes, k := valueIn(t, c.value)
		p := isBuiltWithSigns(t, nodes, k, c.pre, ";", 0)
		if len(p.Chunks) != c.ended+1 || p.Chunks[c.ended].Text != c.last {
			t.Errorf("%q has %d chunks, the last one %q; want %d, %q", c.pre+c.value, len(p.Chunks), p.Chunks[len(p.Chunks)-1].Text, c.ended+1, c.last)
		}
	}
}

func TestBuildEachListOfAFullPiece(t *testing.T) {
	nodes, k := valueIn(t, fullLists(6))
	p := isBuilt(t, nodes, k, "v =", ";", 0)
	lists := rightLists(p)
	if want := 2 * 3 * 3 * 3 * 3 * 3 * 3 * 3; len(lists) != want {
		t.Fatalf("there are %d lists; want %d", len(lists), want)
	}
	listsTellSigns(t, p, lists, nodes, k, "v =", ";")
}

// TestBuildRulesBehindTheMostChunks has rules that are made where there is no room for a split by them: 77 chunks are ended ahead of the last value.
func TestBuildRulesBehindTheMostChunks(t *testing.T) {
	rules := strings.Repeat("3/1 ", 6)
	for _, c := range []struct{ value, last, rules string }{
		{"x + y", "", "2/1"},
		{"x + c * d", "d", "2/1 2/1 78-78 7>6"},
		{"c * d + x", "x", "2/1 2/1 77-77 7>6"},
		// The last kid has a rule, and so a tie; it has ended no chunk, and so no span.
		{"x + y + c * d", "c * d", "2/1 2/1 7>6"},
		{"x + y + z + c * d", "z + c * d", "2/1 2/1 7>6"},
		{"x ? c ? d : e : z", "? d : e : z", "2/1 2/1 7>6"},
		{"x ? y : c ? d : e", ": c ? d : e", "2/1 2/1 7>6"},
		{"x + f(b)", "b)", "2/1 2/1 78-78"},
		{"x + y + f(b, c)", "f(b, c)", "2/1 3/1"},
		{"f(b, c)(d)", "c)(d)", "3/1 2/1"},
		{"() => () => () => b", "() => b", "2/2 2/2"},
		{"a..f()..g()..h(b)", "..g()..h(b)", "2/1 2/1"},
	} {
		nodes, k := valueIn(t, fullLists(5, "b", "b", "b", "b", "b", "b", c.value))
		p := isBuiltWithSigns(t, nodes, k, "", ";", 0)
		if len(p.Chunks) != impl.MaxChunks {
			t.Fatalf("%q has %d chunks", c.value, len(p.Chunks))
		}
		if got, last := rulesIn(p), p.Chunks[79].Text; got != rules+c.rules || last != c.last+"];" {
			t.Errorf("%q is built with %s, at the end %q; want %s, %q", c.value, got, last, rules+c.rules, c.last+"];")
		}
	}
}

func TestBuildNumbersOfIn(t *testing.T) {
	nodes, k := valueIn(t, "f(a, b)")
	for _, in := range append(slices.Clone(oddNumbers), 20, 42) {
		if in < 0 || in > 60 {
			nothingIsBuilt(t, fmt.Sprint("in ", in), nodes, k, "v =", ";", in)
			continue
		}
		p := isBuiltWithSigns(t, nodes, k, "v =", ";", in)
		if p.Indent != in {
			t.Errorf("in %d it is in %d", in, p.Indent)
		}
	}
}

func TestBuildLengthsOfEnds(t *testing.T) {
	nodes, k := valueIn(t, "[a]")
	for _, length := range []int{0, 1, mostEnd - 1, mostEnd, mostEnd + 1, mostEnd + 2, 1000, impl.MaxText + 1} {
		for _, filler := range []string{"x", "=", " "} {
			long := strings.Repeat(filler, length)
			if length > mostEnd {
				nothingIsBuilt(t, "a long pre", nodes, k, long, "", 0)
				nothingIsBuilt(t, "a long post", nodes, k, "", long, 0)
				nothingIsBuilt(t, "long ends", nodes, k, long, long, 0)
				continue
			}
			isBuilt(t, nodes, k, long, "", 0)
			isBuilt(t, nodes, k, "", long, 60)
			isBuilt(t, nodes, k, long, long, 0)
		}
	}
}

func TestBuildBytesOfEnds(t *testing.T) {
	nodes, k := valueIn(t, "a + b")
	for one := range 256 {
		text := string([]byte{byte(one)})
		for _, text := range []string{text, "x" + text, text + "x", text + "="} {
			if one < 32 || one > 126 {
				nothingIsBuilt(t, fmt.Sprintf("the pre %q", text), nodes, k, text, "", 0)
				nothingIsBuilt(t, fmt.Sprintf("the post %q", text), nodes, k, "", text, 0)
				continue
			}
			isBuilt(t, nodes, k, text, "", 0)
			isBuilt(t, nodes, k, "", text, 0)
		}
	}
}

func TestBuildTheDeepestValues(t *testing.T) {
	for kind := impl.NdList; kind <= impl.NdPar; kind++ {
		m := &treeMaker{}
		last := m.name()
		for deep := 2; deep <= impl.MaxDeep+2; deep++ {
			switch kind {
			case impl.NdChain:
				last = m.add(kind, "*", last, m.name())
			case impl.NdPick:
				last = m.add(kind, "", m.name(), m.name(), last)
			case impl.NdFn:
				last = m.add(kind, "", m.name(), last)
			case impl.NdCascade:
				last = m.add(kind, "", last, m.add(impl.NdCall, "", m.name()))
			default:
				last = m.add(kind, rightTexts[kind], last)
			}
			// A cascade is one deeper than the others, as its calls are of depth 2.
			if deep > impl.MaxDeep || deep == impl.MaxDeep && kind == impl.NdCascade {
				isNoValue(t, "a value that is too deep", m.nodes, last)
				continue
			}
			isBuiltWithSigns(t, m.nodes, last, "v =", ";", 60)
			isBuiltWithSigns(t, m.nodes, last, "", "", 0)
		}
	}
}

func TestBuildTheMostNodes(t *testing.T) {
	full, values := "[a"+strings.Repeat(", a", 11)+"]", []string{}
	for i := range 12 {
		values = append(values, "["+full+strings.Repeat(", b", 9+min(i, 9)/9)+", 'c']")
	}
	nodes, k := valueIn(t, "["+strings.Join(values, ", ")+"]")
	if len(nodes) > impl.MaxNodes || len(nodes) < impl.MaxNodes-9 {
		t.Fatalf("there are %d nodes", len(nodes))
	}
	isBuiltWithSigns(t, nodes, k, "v =", ";", 0)
	isBuiltWithSigns(t, nodes, k, "", "", 60)
	// A list of more nodes is no tree, but its values have depths.
	m := &treeMaker{nodes: cloneTree(nodes)}
	for range 3 * impl.MaxNodes {
		m.name()
	}
	isBuiltWithSigns(t, m.nodes, m.add(impl.NdList, "", k, len(m.nodes)-1), "v =", ";", 0)
}

func TestBuildLongTexts(t *testing.T) {
	long := "'" + strings.Repeat("x", impl.MaxSource-2) + "'"
	nodes := []impl.Node{{Kind: impl.NdText, Text: long}, {Kind: impl.NdText, Text: "''"}, {Kind: impl.NdChain, Text: "+", Kids: []int{0, 1}}}
	isBuilt(t, nodes, 0, "v =", ";", 0)
	p := isBuilt(t, nodes, 2, "", "", 0)
	if p.Chunks[0].Text != long+" +" {
		t.Errorf("the first chunk has %d bytes", len(p.Chunks[0].Text))
	}
	nodes[0].Text += "'"
	isNoValue(t, "a text that is too long", nodes, 0)
}

func TestBuildPlacesWithoutAValue(t *testing.T) {
	nodes, _ := wholeTree()
	for k, node := range nodes {
		if node.Kind <= impl.NdPar {
			isBuiltWithSigns(t, nodes, k, "", "", 0)
			continue
		}
		isNoValue(t, fmt.Sprint("kind ", node.Kind), nodes, k)
	}
	for _, k := range []int{-1, -2, len(nodes), len(nodes) + 1, 1 << 40, math.MaxInt, math.MinInt, math.MinInt + 1} {
		isNoValue(t, fmt.Sprint("k ", k), nodes, k)
		isNoValue(t, "no nodes", nil, k)
		isNoValue(t, "no nodes", []impl.Node{}, k)
	}
	isNoValue(t, "no nodes", nil, 0)
	nothingIsBuilt(t, "all of it wrong", nodes, math.MinInt, strings.Repeat("\x00", 50), "\n", math.MaxInt)
}

func TestBuildBehindWrongNodes(t *testing.T) {
	nodes, k := valueIn(t, "f(a, [b], c.d) + 1")
	wrong := []impl.Node{
		{}, {Kind: 23, Text: "a"}, {Kind: -1}, {Kind: impl.NdName}, {Kind: impl.NdName, Text: "a b"}, {Kind: impl.NdName, Text: "a", Blank: true},
		{Kind: impl.NdName, Text: "a", Kids: []int{0}}, {Kind: impl.NdNum, Text: "a"}, {Kind: impl.NdText, Text: "'\n'"}, {Kind: impl.NdText, Text: "'\x7f'"},
		{Kind: impl.NdPar}, {Kind: impl.NdPar, Kids: []int{1000}}, {Kind: impl.NdPar, Kids: []int{-1}}, {Kind: impl.NdPar, Kids: []int{math.MinInt}},
		{Kind: impl.NdPar, Kids: []int{math.MaxInt}}, {Kind: impl.NdChain, Text: "/"}, {Kind: impl.NdCall}, {Kind: impl.NdFn}, {Kind: impl.NdCascade},
		{Kind: impl.NdFile, Kids: []int{0}, Blank: true},
	}
	for at := range nodes {
		for _, node := range wrong {
			turned := cloneTree(nodes)
			turned[at] = node
			for one := range turned {
				if one >= at {
					isNoValue(t, "a node up to it that is not right", turned, one)
				} else if turned[one].Kind <= impl.NdPar {
					// What stands behind a value doesn't matter.
					isBuiltWithSigns(t, turned, one, "v =", ";", 0)
				}
			}
		}
	}
	isBuiltWithSigns(t, nodes, k, "", "", 0)
}

func TestBuildListsThatAreNoTree(t *testing.T) {
	for _, lines := range []string{
		"name a", "num 1/name a/list 1", "return/name a/par 1", "file/name a/block/list 1", "name a/var v 0/do 0/list 0", "name a/list 0/list 0 1/list 0 1 2/list 0 1 2 3",
		"block/method m 0/class C 1/file 2/name a/file/call 4 4", "name a/return 0/block 1/method m 2/file 3/dot b 0/file",
	} {
		nodes := nodesOf(strings.Split(lines, "/"))
		for k := range nodes {
			if deepByWord(nodes, k) > 0 && nodes[k].Kind <= impl.NdPar {
				isBuiltWithSigns(t, nodes, k, "v =", ";", 4)
			} else {
				isNoValue(t, lines, nodes, k)
			}
		}
	}
}

func TestBuildAnySource(t *testing.T) {
	kinds := map[int]int{}
	for seed := range int64(150) {
		nodes := anySource(seed).nodes
		for k, node := range nodes {
			if node.Kind > impl.NdPar {
				isNoValue(t, "no value", nodes, k)
				continue
			}
			ends := endsAround[(int(seed)+k)%len(endsAround)]
			isBuiltWithSigns(t, nodes, k, ends[0], ends[1], (int(seed)*7+k)%61)
			if node.Kind > impl.NdText {
				kinds[node.Kind]++
			}
		}
	}
	for kind := impl.NdList; kind <= impl.NdPar; kind++ {
		if kinds[kind] < 50 {
			t.Errorf("the sources have the kind %d only %d times", kind, kinds[kind])
		}
	}
}

// anyValues makes values by chance, of which one may be the kid of several: of a number of kids ahead that keeps what they unfold to small.
func anyValues(seed int64) []impl.Node {
	chance, m, sizes := rand.New(rand.NewSource(seed)), &treeMaker{}, []int{}
	add := func(kind int, text string, kids ...int) {
		size := 1
		for _, kid := range kids {
			size += sizes[kid]
		}
		m.add(kind, text, kids...)
		if size > 200 || !impl.NodeOk(m.nodes, len(m.nodes)-1) || impl.DeepOf(m.nodes, len(m.nodes)-1) == 0 {
			m.nodes = m.nodes[:len(m.nodes)-1]
			return
		}
		sizes = append(sizes, size)
	}
	pickOf := func(least int, most int) []int {
		count := min(least+chance.Intn(most-least+1), len(m.nodes))
		return chance.Perm(len(m.nodes))[:count]
	}
	for _, text := range []string{"a", "b", "f"} {
		add(impl.NdName, text)
	}
	for range 20 {
		last := []int{len(m.nodes) - 1}
		switch kind := impl.NdNum + chance.Intn(10); kind {
		case impl.NdNum, impl.NdText:
			add(kind, rightTexts[kind])
		case impl.NdList:
			add(kind, "", pickOf(0, 5)...)
		case impl.NdCall:
			add(kind, "", pickOf(1, 4)...)
			add(kind, "", append([]int{2}, pickOf(0, 1)...)...)
		case impl.NdChain:
			add(kind, []string{"+", "*", "&&"}[chance.Intn(3)], pickOf(2, 4)...)
			add(kind, "<", append(last, pickOf(1, 2)...)...)
		case impl.NdPick:
			add(kind, "", pickOf(3, 3)...)
			add(kind, "", append(last, pickOf(2, 2)...)...)
		case impl.NdFn:
			add(kind, "", slices.Concat([]int{0, 1}[:chance.Intn(3)], pickOf(1, 1))...)
		case impl.NdCascade:
			add(kind, "", pickOf(1, 3)...)
		default:
			add(kind, rightTexts[kind], pickOf(1, 1)...)
		}
	}
	return m.nodes
}

func TestBuildAnyValues(t *testing.T) {
	rules, full, ties, spans := map[int]int{}, 0, 0, 0
	for seed := range int64(500) {
		nodes := anyValues(seed)
		for k := range nodes {
			ends := endsAround[(int(seed)+k)%len(endsAround)]
			p := isBuilt(t, nodes, k, ends[0], ends[1], (int(seed)+k)%61)
			if seed%10 == 0 {
				tellsItsSigns(t, p, nodes, k, ends[0], ends[1])
			}
			rules[len(p.Rules)]++
			ties += len(p.Ties)
			spans += len(p.Spans)
			if len(p.Chunks) > 20 {
				full++
			}
		}
	}
	for count := range impl.MaxRules + 1 {
		if rules[count] < 30 {
			t.Errorf("only %d pieces have %d rules", rules[count], count)
		}
	}
	if full < 50 || ties < 500 || spans < 500 {
		t.Errorf("%d pieces have many chunks; there are %d ties, %d spans", full, ties, spans)
	}
}

// TestBuildTurnedValues turns each number of nodes, so that kids are elsewhere, too far, or not there.
func TestBuildTurnedValues(t *testing.T) {
	built := 0
	for seed := range int64(5) {
		nodes := anyValues(seed)
		for at := range nodes {
			turn := func(change func(node *impl.Node)) {
				turned := cloneTree(nodes)
				change(&turned[at])
				for k := at; k < len(turned); k++ {
					if deepByWord(turned, k) == 0 || turned[k].Kind > impl.NdPar {
						isNoValue(t, "a turned node", turned, k)
					} else if len(stepsByWord(turned, k, "k", 0)) < 2000 {
						isBuilt(t, turned, k, "v =", ";", 0)
						built++
					}
				}
			}
			for kind := range 24 {
				turn(func(node *impl.Node) { node.Kind = kind })
			}
			turn(func(node *impl.Node) { node.Blank = true })
			turn(func(node *impl.Node) { node.Text = "b" })
			turn(func(node *impl.Node) { node.Text = "" })
			for i := range nodes[at].Kids {
				for _, kid := range []int{math.MinInt, -1, 0, 1, 2, at - 1, at, at + 1, len(nodes), math.MaxInt} {
					turn(func(node *impl.Node) { node.Kids[i] = kid })
				}
			}
		}
	}
	if built < 3000 {
		t.Errorf("only %d turned values are built", built)
	}
}

// longValue has Texts of several bytes, so that it can be seen whose memory they are.
func longValue(t *testing.T) ([]impl.Node, int) {
	t.Helper()
	return valueIn(t, "(first + 'second' * 333).fourth(fifth ? [sixth, 777] : eighth, (ninth, tenth) => eleventh..twelfth(13))")
}

func TestBuildLeavesAllAsItIs(t *testing.T) {
	nodes, _ := longValue(t)
	for k := range nodes {
		if len(nodes[k].Kids) > 0 {
			nodes[k].Kids = withRoom(nodes[k].Kids)
		}
	}
	nodes = withRoom(nodes)
	whole := nodes[:cap(nodes)]
	before := []impl.Node{}
	for _, node := range whole {
		node.Kids = slices.Clone(node.Kids[:cap(node.Kids)])
		before = append(before, node)
	}
	for k := -1; k <= len(nodes); k++ {
		impl.PlainOf(nodes, k)
		for _, ends := range endsAround {
			p, _ := impl.PieceOf(nodes, k, ends[0], ends[1], 60)
			impl.PieceOf(nodes, k, ends[0], ends[1], 61)
			spoil(p)
		}
	}
	for k, node := range whole {
		node.Kids = node.Kids[:cap(node.Kids)]
		if !reflect.DeepEqual(node, before[k]) {
			t.Errorf("the node %d is %v; it was %v", k, node, before[k])
		}
	}
}

// spoil writes into all of a piece, its spare room too.
func spoil(p impl.Piece) {
	for i := range p.Rules[:cap(p.Rules)] {
		p.Rules[:cap(p.Rules)][i] = impl.Rule{Values: 77, Cost: 77}
	}
	for i := range p.Chunks[:cap(p.Chunks)] {
		p.Chunks[:cap(p.Chunks)][i] = impl.Chunk{Text: "spoilt"}
	}
	for i := range p.Spans[:cap(p.Spans)] {
		p.Spans[:cap(p.Spans)][i] = impl.Span{From: 77}
	}
	for i := range p.Ties[:cap(p.Ties)] {
		p.Ties[:cap(p.Ties)][i] = impl.Tie{Kid: 77}
	}
}

func TestBuiltIsNewMemory(t *testing.T) {
	nodes, value := longValue(t)
	pre, post := strings.Clone("var of_many_bytes ="), strings.Clone(" // behind it")
	for k := range nodes {
		first, ok := impl.PieceOf(nodes, k, pre, post, 3)
		second, _ := impl.PieceOf(nodes, k, pre, post, 3)
		plain := impl.PlainOf(nodes, k)
		texts := []string{plain}
		for _, chunk := range first.Chunks {
			texts = append(texts, chunk.Text)
		}
		for _, text := range texts {
			shared := sharesMemory(text, pre) || sharesMemory(text, post)
			for _, node := range nodes {
				shared = shared || len(text) > 1 && sharesMemory(text, node.Text)
			}
			if shared {
				t.Errorf("%q shares memory with an argument", text)
			}
		}
		spoil(first)
		third, _ := impl.PieceOf(nodes, k, pre, post, 3)
		if !samePiece(second, third) || ok && second.Chunks[0].Text == "spoilt" {
			t.Errorf("behind a change of the first piece the second is %+v, the third %+v", second, third)
		}
	}
	p := isBuilt(t, nodes, value, pre, post, 0)
	before := clonePiece(p)
	for k := range nodes {
		nodes[k] = impl.Node{Kind: impl.NdName, Text: "other", Kids: nodes[k].Kids}
		for i := range nodes[k].Kids {
			nodes[k].Kids[i] = -7
		}
	}
	if !samePiece(p, before) {
		t.Errorf("behind a change of the nodes the piece is %+v", p)
	}
}
