package tests

import (
	"fmt"
	"math"
	"math/rand"
	"regexp"
	"slices"
	"strconv"
	"strings"
	"testing"

	"loop.example/g00459/impl"
)

const (
	mostName = 30
	mostBase = 20
)

var nameForm = regexp.MustCompile(`\A[A-Za-z_][A-Za-z0-9_]*\z`)

// noNames are Texts that are no name of at most 30 bytes.
var noNames = []string{
	"", " ", "a ", " a", "a b", "1", "1a", "a.b", "a-b", "a(", "'a'", "// a", "+", "=>", "a\n", "\n", "a\x00", "\xff", "a\xff", "\xc3\xa9", "a;", "//",
	strings.Repeat("n", mostName+1), strings.Repeat("n", impl.MaxSource), strings.Repeat("n", impl.MaxSource+1),
}

// farFrom has places of a list of so many nodes, and more that are none.
func farFrom(count int) []int {
	return []int{math.MinInt, math.MinInt + 1, -2, -1, count, count + 1, count + 2, math.MaxInt - 1, math.MaxInt}
}

// underByWord goes down from the node, by its Kids and theirs.
func underByWord(nodes []impl.Node, k int) []int {
	if impl.DeepOf(nodes, k) == 0 {
		return nil
	}
	found := map[int]bool{}
	var down func(k int)
	down = func(k int) {
		found[k] = true
		for _, kid := range nodes[k].Kids {
			if !found[kid] {
				down(kid)
			}
		}
	}
	down(k)
	places := []int{}
	for place := range nodes {
		if found[place] {
			places = append(places, place)
		}
	}
	return places
}

// isGiven asks each of these places whether the node is a name of it.
func isGiven(nodes []impl.Node, under []int, k int) bool {
	return slices.ContainsFunc(under, func(place int) bool {
		node := nodes[place]
		return (node.Kind == impl.NdFn || node.Kind == impl.NdMethod) && slices.Contains(node.Kids[:len(node.Kids)-1], k)
	})
}

// textsWhere has the Texts of those places that are asked for, each once, in the order in which they stand.
func textsWhere(nodes []impl.Node, under []int, is func(place int) bool) []string {
	texts := []string{}
	for _, place := range under {
		if is(place) && !slices.Contains(texts, nodes[place].Text) {
			texts = append(texts, nodes[place].Text)
		}
	}
	return texts
}

// isPartInOrder asks whether all of a part stand in the whole, in the same order, each once.
func isPartInOrder(part []string, whole []string) bool {
	for _, text := range part {
		at := slices.Index(whole, text)
		if at < 0 {
			return false
		}
		whole = whole[at+1:]
	}
	return true
}

// toldNames is what is told of one node.
type toldNames struct {
	under                     []int
	names, lets, free, unused []string
}

func namesByWord(nodes []impl.Node, k int) toldNames {
	under := underByWord(nodes, k)
	isName := func(place int) bool { return nodes[place].Kind == impl.NdName }
	isLet := func(place int) bool {
		return nodes[place].Kind == impl.NdVar || isName(place) && isGiven(nodes, under, place)
	}
	names, lets := textsWhere(nodes, under, isName), textsWhere(nodes, under, isLet)
	used := textsWhere(nodes, under, func(place int) bool { return isName(place) && !isGiven(nodes, under, place) })
	return toldNames{
		under:  under,
		names:  names,
		lets:   lets,
		free:   textsWhere(nodes, under, func(place int) bool { return isName(place) && !slices.Contains(lets, nodes[place].Text) }),
		unused: textsWhere(nodes, under, func(place int) bool { return isLet(place) && !slices.Contains(used, nodes[place].Text) }),
	}
}

func mayBear(kind int) bool {
	return kind == impl.NdName || kind == impl.NdVar || kind == impl.NdSet
}

func countNameByWord(nodes []impl.Node, k int, name string) int {
	count := 0
	for _, place := range underByWord(nodes, k) {
		if mayBear(nodes[place].Kind) && nodes[place].Text == name {
			count++
		}
	}
	return count
}

func hasText(nodes []impl.Node, text string) bool {
	return slices.ContainsFunc(nodes, func(node impl.Node) bool { return node.Text == text })
}

func freshByWord(nodes []impl.Node, base string) string {
	if !nameForm.MatchString(base) || len(base) > mostBase {
		return ""
	}
	name := base
	for number := 2; hasText(nodes, name); number++ {
		name = base + strconv.Itoa(number)
	}
	return name
}

func memberPlacesByWord(nodes []impl.Node) []int {
	places := []int{}
	if !impl.TreeOk(nodes) {
		return places
	}
	for k, node := range nodes {
		if node.Kind != impl.NdVar && node.Kind != impl.NdMethod && node.Kind != impl.NdClass {
			continue
		}
		for _, owner := range nodes {
			if (owner.Kind == impl.NdClass || owner.Kind == impl.NdFile) && slices.Contains(owner.Kids, k) {
				places = append(places, k)
			}
		}
	}
	return places
}

func renamedByWord(nodes []impl.Node, k int, from string, to string) ([]impl.Node, bool) {
	if !slices.Contains(memberPlacesByWord(nodes), k) || nodes[k].Kind == impl.NdClass || countNameByWord(nodes, k, from) == 0 {
		return nodes, false
	}
	if !nameForm.MatchString(to) || len(to) > mostName || countNameByWord(nodes, k, to) > 0 {
		return nodes, false
	}
	list := cloneTree(nodes)
	for _, place := range underByWord(nodes, k) {
		if mayBear(nodes[place].Kind) && nodes[place].Text == from {
			list[place].Text = to
		}
	}
	return list, true
}

// namesAre holds what is told of a node, and what the chapter says of it at any node.
func namesAre(t *testing.T, nodes []impl.Node, k int, want toldNames) {
	t.Helper()
	if got := impl.UnderOf(nodes, k); !slices.Equal(got, want.under) {
		t.Fatalf("UnderOf(%v, %d) is %v; want %v", nodes, k, got, want.under)
	}
	at := fmt.Sprintf("(%v, %d)", nodes, k)
	names, lets, free, unused := impl.NamesIn(nodes, k), impl.LetsIn(nodes, k), impl.FreeIn(nodes, k), impl.Unused(nodes, k)
	linesAre(t, "NamesIn"+at, names, want.names...)
	linesAre(t, "LetsIn"+at, lets, want.lets...)
	linesAre(t, "FreeIn"+at, free, want.free...)
	linesAre(t, "Unused"+at, unused, want.unused...)
	texts := []string{}
	for _, place := range want.under {
		texts = append(texts, nodes[place].Text)
	}
	for _, list := range [][]string{names, lets, free, unused} {
		for i, name := range list {
			if slices.Index(list, name) != i || !slices.Contains(texts, name) {
				t.Fatalf("of %s a name is told twice, or is none of a node: %q", at, list)
			}
		}
	}
	for _, name := range names {
		if slices.Contains(free, name) == slices.Contains(lets, name) {
			t.Fatalf("of %s %q is in FreeIn and LetsIn, or in neither", at, name)
		}
	}
	if !isPartInOrder(free, names) || !isPartInOrder(unused, lets) {
		t.Fatalf("of %s FreeIn is %q of %q, Unused is %q of %q; want a part, in the same order", at, free, names, unused, lets)
	}
}

func countNameIs(t *testing.T, nodes []impl.Node, k int, name string, want int) {
	t.Helper()
	if got := impl.CountName(nodes, k, name); got != want {
		t.Fatalf("CountName(%v, %d, %q) is %d; want %d", nodes, k, name, got, want)
	}
}

func namesAreByWord(t *testing.T, nodes []impl.Node, k int) {
	t.Helper()
	namesAre(t, nodes, k, namesByWord(nodes, k))
	texts := []string{"", "a", "nowhere"}
	for _, node := range nodes {
		texts = append(texts, node.Text)
	}
	slices.Sort(texts)
	for _, text := range slices.Compact(texts) {
		countNameIs(t, nodes, k, text, countNameByWord(nodes, k, text))
	}
}

// hasNoNames is for a place without a node that has a depth.
func hasNoNames(t *testing.T, nodes []impl.Node, places ...int) {
	t.Helper()
	for _, k := range places {
		namesAre(t, nodes, k, toldNames{})
		for _, name := range []string{"", "a", "v", "m", "C", "nowhere"} {
			countNameIs(t, nodes, k, name, 0)
		}
	}
}

func placesAreMembers(t *testing.T, nodes []impl.Node, want ...int) {
	t.Helper()
	if got := impl.MembersIn(nodes); !slices.Equal(got, want) {
		t.Fatalf("MembersIn(%v) is %v; want %v", nodes, got, want)
	}
}

func freshIs(t *testing.T, nodes []impl.Node, base string, want string) {
	t.Helper()
	if got := impl.FreshName(nodes, base); got != want || freshByWord(nodes, base) != want {
		t.Fatalf("FreshName(%v, %q) is %q, by word %q; want %q", nodes, base, got, freshByWord(nodes, base), want)
	}
}

// isRenamed holds Renamed by the chapter's words, and that nothing is written into what is handed in; it tells what became of it.
func isRenamed(t *testing.T, nodes []impl.Node, k int, from string, to string) ([]impl.Node, bool) {
	t.Helper()
	held := cloneTree(nodes)
	want, wantOk := renamedByWord(nodes, k, from, to)
	got, ok := impl.Renamed(nodes, k, from, to)
	if ok != wantOk || !impl.SameTree(got, want) || !impl.SameTree(nodes, held) {
		t.Fatalf("Renamed(%v, %d, %q, %q) is %v, %v; want %v, %v", held, k, from, to, got, ok, want, wantOk)
	}
	return got, ok
}

// namesKeepTheirOrder wants the other name told where the one was that it stands for, and all others as they were.
func namesKeepTheirOrder(t *testing.T, nodes []impl.Node, other []impl.Node, k int, from string, to string) {
	t.Helper()
	for what, namesOf := range map[string]func([]impl.Node, int) []string{"NamesIn": impl.NamesIn, "LetsIn": impl.LetsIn, "FreeIn": impl.FreeIn, "Unused": impl.Unused} {
		want := namesOf(nodes, k)
		if at := slices.Index(want, from); at >= 0 {
			want[at] = to
		}
		linesAre(t, fmt.Sprintf("%s of %d with %q in the place of %q", what, k, to, from), namesOf(other, k), want...)
	}
}

// renamesAndBack is promise 22: with another name all else is as it was.
func renamesAndBack(t *testing.T, nodes []impl.Node, k int, from string, to string) []impl.Node {
	t.Helper()
	other, ok := isRenamed(t, nodes, k, from, to)
	if !ok {
		t.Fatalf("Renamed(%v, %d, %q, %q) is false", nodes, k, from, to)
	}
	if !impl.TreeOk(other) || impl.CountName(other, k, to) != impl.CountName(nodes, k, from) || impl.CountName(other, k, from) != 0 {
		t.Fatalf("Renamed(%v, %d, %q, %q) is no right tree, or the names in it are not as many: %v", nodes, k, from, to, other)
	}
	namesKeepTheirOrder(t, nodes, other, k, from, to)
	turned, was, is := 0, impl.SignsIn(nodes), impl.SignsIn(other)
	for i := range was {
		switch {
		case was[i] == is[i]:
		case was[i] == impl.Sign{Kind: impl.SgName, Text: from} && is[i] == impl.Sign{Kind: impl.SgName, Text: to}:
			turned++
		default:
			t.Fatalf("the sign %v becomes %v by Renamed from %q to %q", was[i], is[i], from, to)
		}
	}
	if len(was) != len(is) || turned != impl.CountName(nodes, k, from) {
		t.Fatalf("of %v %d signs become others by Renamed(.., %d, %q, %q)", nodes, turned, k, from, to)
	}
	if back, _ := isRenamed(t, other, k, to, from); !impl.SameTree(back, nodes) {
		t.Fatalf("Renamed from %q to %q, and back, is %v; want %v", from, to, back, nodes)
	}
	return other
}

func isNotRenamed(t *testing.T, nodes []impl.Node, k int, from string, to string) {
	t.Helper()
	if list, ok := isRenamed(t, nodes, k, from, to); ok || !impl.SameTree(list, nodes) {
		t.Fatalf("Renamed(%v, %d, %q, %q) is %v, %v; want it as it is, false", nodes, k, from, to, list, ok)
	}
}

// fromTo has the places from one to another.
func fromTo(from int, to int) []int {
	places := []int{}
	for place := from; place <= to; place++ {
		places = append(places, place)
	}
	return places
}

func words(text string) []string { return strings.Fields(text) }

// namesSource has names of its own in each member, and the same names in several.
const namesSource = `var all = [first, second];
class Box {
  var size = all.size;
  // size
  put(item, spare) {
    var kept = (item, other) => item + size;
    kept = add(item)..put(size, kept);
    last = 1;
    return kept;
  }
}
main(args) {
  var unused;
  while (args) {
    print(args, 'unused');
  }
}
`

func TestNamesOfTheDocument(t *testing.T) {
	nodes := readTree(t, "main(a, b) { var c = a + d; return c; }")
	placesAreMembers(t, nodes, 9)
	namesAre(t, nodes, 9, toldNames{fromTo(0, 9), words("a b d c"), words("a b c"), words("d"), words("b")})
	renamesAndBack(t, nodes, 9, "a", "z")
	isNotRenamed(t, nodes, 9, "a", "d")
	freshIs(t, nodes, "c", "c2")
}

func TestNamesByHand(t *testing.T) {
	nodes := readTree(t, namesSource)
	placesAreMembers(t, nodes, 3, 6, 31, 32, 44)
	for k, want := range map[int]toldNames{
		3:  {fromTo(0, 3), words("first second"), words("all"), words("first second"), words("all")},
		6:  {fromTo(4, 6), words("all"), words("size"), words("all"), words("size")},
		31: {fromTo(8, 31), words("item spare other size add put kept"), words("item spare other kept"), words("size add put"), words("spare other")},
		32: {fromTo(4, 32), words("all item spare other size add put kept"), words("size item spare other kept"), words("all add put"), words("spare other")},
		44: {fromTo(33, 44), words("args print"), words("args unused"), words("print"), words("unused")},
		45: {fromTo(0, 45), words("first second all item spare other size add put kept args print"), words("all size item spare other kept args unused"), words("first second add put print"), words("spare other unused")},
		// The arrow, its value, the variable with it, the setting, and a number alone.
		15: {fromTo(10, 15), words("item other size"), words("item other"), words("size"), words("other")},
		14: {fromTo(12, 14), words("item size"), nil, words("item size"), nil},
		16: {fromTo(10, 16), words("item other size"), words("item other kept"), words("size"), words("other kept")},
		25: {fromTo(17, 25), words("add item put size kept"), nil, words("add item put size kept"), nil},
		26: {[]int{26}, nil, nil, nil, nil},
		34: {[]int{34}, nil, words("unused"), nil, words("unused")},
	} {
		namesAre(t, nodes, k, want)
	}
	for k := -1; k <= len(nodes); k++ {
		namesAreByWord(t, nodes, k)
	}
}

func TestCountNameByHand(t *testing.T) {
	nodes := readTree(t, namesSource)
	for _, c := range []struct {
		k, count int
		name     string
	}{
		{31, 4, "item"}, {31, 1, "spare"}, {31, 4, "kept"}, {31, 2, "size"}, {31, 1, "last"}, {31, 1, "put"}, {31, 1, "other"}, {31, 0, "all"}, {31, 0, "nowhere"}, {31, 0, ""}, {31, 0, "1"}, {31, 0, "+"},
		{32, 3, "size"}, {32, 1, "all"}, {32, 0, "Box"}, {32, 0, "// size"}, {45, 2, "all"}, {45, 1, "unused"}, {45, 0, "'unused'"}, {45, 0, "main"}, {44, 3, "args"},
		{6, 1, "size"}, {5, 0, "size"}, {4, 1, "all"}, {25, 2, "kept"}, {27, 1, "last"}, {26, 0, "last"}, {26, 0, "1"}, {7, 0, "// size"},
	} {
		countNameIs(t, nodes, c.k, c.name, c.count)
	}
}

// memberNames are the names of the last member of a source.
func memberNames(t *testing.T, source string) toldNames {
	t.Helper()
	nodes := readTree(t, source)
	k := impl.MembersIn(nodes)[len(impl.MembersIn(nodes))-1]
	namesAreByWord(t, nodes, k)
	return toldNames{nil, impl.NamesIn(nodes, k), impl.LetsIn(nodes, k), impl.FreeIn(nodes, k), impl.Unused(nodes, k)}
}

// TestNamesThatAreNowhereUsed has of the last member of each source what NamesIn, LetsIn, FreeIn and Unused tell.
func TestNamesThatAreNowhereUsed(t *testing.T) {
	for source, want := range map[string]string{
		"m(){}":                 "; ; ; ",
		"m(a){}":                "a; a; ; a",
		"m(a,){a;}":             "a; a; ; ",
		"m(a,b){return b;}":     "a b; a b; ; a",
		"m(){return (a)=>1;}":   "a; a; ; a",
		"m(){return (a)=>a;}":   "a; a; ; ",
		"m(){return (a,b)=>a;}": "a b; a b; ; b",
		"m(){return ()=>a;}":    "a; ; a; ",
		// A name that stands in another arrow than the one that gives it is used.
		"m(){return (a)=>(b)=>a;}": "a b; a b; ; b",
		"m(){(a)=>b;(b)=>a;}":      "a b; a b; ; ",
		"m(a){return (a)=>1;}":     "a; a; ; a",
		"m(a){return (a)=>a;}":     "a; a; ; ",
		// A variable that is only set is not used.
		"m(){var a;a=1;}":     "; a; ; a",
		"m(){var a;a=a;}":     "a; a; ; ",
		"m(){a=1;}":           "; ; ; ",
		"m(){a=b;}":           "b; ; b; ",
		"m(a){a=1;}":          "a; a; ; a",
		"m(){var a=1;}":       "; a; ; a",
		"m(){var a=a;}":       "a; a; ; ",
		"m(){a;var a;}":       "a; a; ; ",
		"m(){var a;var a;}":   "; a; ; a",
		"m(){var a;var a=a;}": "a; a; ; ",
		// A name of an arrow or a method that is a variable's, too.
		"m(a){var a;}":               "a; a; ; a",
		"m(a){var a=b;}":             "a b; a; b; a",
		"m(){var a=(a)=>1;}":         "a; a; ; a",
		"m(){var a=(a)=>a;}":         "a; a; ; ",
		"m(a){var a=(a)=>1;}":        "a; a; ; a",
		"m(a){var a=(a)=>1;a=2;}":    "a; a; ; a",
		"m(a){var a=(a)=>1;if(a){}}": "a; a; ; ",
		// What a method is called, and what stands behind a dot, is no NdName.
		"a(){}":                         "; ; ; ",
		"a(){var a;}":                   "; a; ; a",
		"a(a){b.a;}":                    "a b; a; b; a",
		"m(a){b.a();'a';// a\n}":        "a b; a; b; a",
		"m(){a.a;}":                     "a; ; a; ",
		"m(a){b..a();}":                 "a b; a; b; ",
		"m(a){a();}":                    "a; a; ; ",
		"m(a){(a);}":                    "a; a; ; ",
		"m(a){[a];}":                    "a; a; ; ",
		"m(a){while(1){if(2){a+1;}}}":   "a; a; ; ",
		"m(a){while(1){if(2){var a;}}}": "a; a; ; a",
		"var a;":                        "; a; ; a",
		"var a=a;":                      "a; a; ; ",
		"var a=(b,c)=>b;":               "b c; b c a; ; c a",
		"var a=(a)=>1;":                 "a; a; ; a",
		"class a{}":                     "; ; ; ",
		"class C{var a;m(){a;}}":        "a; a; ; ",
		"class C{var a;m(b){a=b;}}":     "b; a b; ; a",
		// Names are told in the order in which they stand, not by their bytes.
		"m(b,_,aa,a,B,a1,A9,a_){}": "b _ aa a B a1 A9 a_; b _ aa a B a1 A9 a_; ; b _ aa a B a1 A9 a_",
		"m(a_,A9,a1,B,a,aa,_,b){}": "a_ A9 a1 B a aa _ b; a_ A9 a1 B a aa _ b; ; a_ A9 a1 B a aa _ b",
		"m(z,y){var x;w;v;}":       "z y w v; z y x; w v; z y x",
		// A value stands ahead of the variable, or of the setting, that has it.
		"m(){var a=c+b;}":  "c b; a; c b; a",
		"m(){a=c+b;d;}":    "c b d; ; c b d; ",
		"var c=(b)=>a+d;":  "b a d; b c; a d; b c",
		"m(c){b(a(d),c);}": "c b a d; c; b a d; ",
		// A name that stands more than once is told where it stands first.
		"m(){c;a;b;a;c;}":                 "c a b; ; c a b; ",
		"m(){b;a;b;a;b;}":                 "b a; ; b a; ",
		"m(){var b;var a;b=1;}":           "; b a; ; b a",
		"m(){var b;a;var a;var b;var c;}": "a; b a c; ; b c",
		// The first variable, arrow or method that gives a name counts for LetsIn, not what stands ahead of it.
		"m(){b;a;c;var a;var b;}":       "b a c; a b; c; ",
		"m(){a=1;b=1;var b;var a;}":     "; b a; ; b a",
		"m(){b;a;(a)=>1;(b)=>1;}":       "b a; a b; ; ",
		"m(){a=c;b;var d;var b;var a;}": "c b; d b a; c; d a",
		// Names that are given and variables stand among each other.
		"m(z){var y=(x)=>1;var w;(a)=>1;}":    "z x a; z x y w a; ; z x y w a",
		"m(){var b=1;(c,b)=>a;var c;}":        "c b a; b c; a; b c",
		"m(d){var c;(b)=>d;var a=b;}":         "d b; d c b a; ; c a",
		"class C{var z;m(y){var b;}var a;}":   "y; z y b a; ; z y b a",
		"class C{n(d){c;}m(b){a;d;}var c=e;}": "d c b a e; d b c; a e; b",
	} {
		told := memberNames(t, source)
		if got := fmt.Sprintf("%s; %s; %s; %s", strings.Join(told.names, " "), strings.Join(told.lets, " "), strings.Join(told.free, " "), strings.Join(told.unused, " ")); got != want {
			t.Errorf("the names of %q are %q; want %q", source, got, want)
		}
	}
}

// TestNamesInTheOrderOfTheirPlaces has lists by hand in which a kid stands behind another kid of a smaller place.
func TestNamesInTheOrderOfTheirPlaces(t *testing.T) {
	for _, c := range []struct{ lines, want string }{
		{"name m, name z, name a, list 1 0 2", "m z a; ; m z a; "},
		{"name m, name z, name a, list 2 1 0", "m z a; ; m z a; "},
		{"name m, name z, name a, chain + 1 2 0", "m z a; ; m z a; "},
		{"name a, name b, num 1, fn 1 0 2", "a b; a b; ; a b"},
		{"name m, name z, name a, num 1, fn 1 2 0 3", "m z a; m z a; ; m z a"},
		{"name m, name z, name a, block, method n 1 2 0 3", "m z a; m z a; ; m z a"},
		{"var m, var z, var a, block 1 2 0", "; m z a; ; m z a"},
		{"var m, var z, var a, class C 2 0 1", "; m z a; ; m z a"},
		{"var m, var z, class C 1, file 2 0", "; m z; ; m z"},
		// The first node that has a name is that of the smallest place, not the first kid.
		{"name b, name a, name b, list 1 2 0", "b a; ; b a; "},
		{"name b, name a, name b, name c, name a, list 4 3 2 1 0", "b a c; ; b a c; "},
		{"var b, var a, var b, block 1 2 0", "; b a; ; b a"},
		// A value ahead of the names of its arrow, and a list of arrows with the later one ahead.
		{"name z, name b, name a, fn 2 1 0", "z b a; b a; z; b a"},
		{"name z, num 1, fn 0 1, name a, num 1, fn 3 4, list 5 2", "z a; z a; ; z a"},
		{"name z, num 1, fn 0 1, var y 2, name x, num 1, fn 4 5, do 6, var w, block 8 7 3", "z x; z y x w; ; z y x w"},
		{"name b, do 0, name a, do 2, var b, name d, do 5, var c, block 7 6 4 3 1", "b a d; b c; a d; c"},
		// What stands among them by its place, and is not under it, does not count.
		{"name z, name b, name a, name z, list 3 2 1", "b a z; ; b a z; "},
	} {
		nodes := nodesOf(strings.Split(c.lines, ", "))
		k := len(nodes) - 1
		namesAreByWord(t, nodes, k)
		got := []string{}
		for _, list := range [][]string{impl.NamesIn(nodes, k), impl.LetsIn(nodes, k), impl.FreeIn(nodes, k), impl.Unused(nodes, k)} {
			got = append(got, strings.Join(list, " "))
		}
		if told := strings.Join(got, "; "); told != c.want {
			t.Errorf("the names of %q are %q; want %q", c.lines, told, c.want)
		}
	}
}

// TestNodesOfSeveral has lists by hand in which a node is the kid of more than one: it is under what has it, once.
func TestNodesOfSeveral(t *testing.T) {
	nodes := nodesOf([]string{"name a", "name b", "chain + 0 1", "list 0 2 1", "par 2", "call 3 4 0", "var v 5", "num 7"})
	namesAre(t, nodes, 5, toldNames{fromTo(0, 5), words("a b"), nil, words("a b"), nil})
	namesAre(t, nodes, 6, toldNames{fromTo(0, 6), words("a b"), words("v"), words("a b"), words("v")})
	namesAre(t, nodes, 4, toldNames{[]int{0, 1, 2, 4}, words("a b"), nil, words("a b"), nil})
	namesAre(t, nodes, 7, toldNames{under: []int{7}})
	countNameIs(t, nodes, 6, "a", 1)
	countNameIs(t, nodes, 6, "b", 1)
	// A name of an arrow that stands as a value, too, is one of those that are names of an arrow.
	nodes = nodesOf([]string{"name a", "name b", "fn 0 1", "do 0", "block 3", "do 2", "block 3 5", "fn 0 2", "fn 1 0", "list 7 8"})
	namesAre(t, nodes, 2, toldNames{fromTo(0, 2), words("a b"), words("a"), words("b"), words("a")})
	namesAre(t, nodes, 4, toldNames{[]int{0, 3, 4}, words("a"), nil, words("a"), nil})
	namesAre(t, nodes, 6, toldNames{[]int{0, 1, 2, 3, 5, 6}, words("a b"), words("a"), words("b"), words("a")})
	// One node is the name of two arrows; another one of the same Text uses it.
	namesAre(t, nodes, 7, toldNames{[]int{0, 1, 2, 7}, words("a b"), words("a"), words("b"), words("a")})
	namesAre(t, nodes, 9, toldNames{[]int{0, 1, 2, 7, 8, 9}, words("a b"), words("a b"), nil, words("a b")})
	nodes = nodesOf([]string{"name a", "num 1", "fn 0 1", "fn 0 2", "name a", "list 3 4"})
	namesAre(t, nodes, 3, toldNames{fromTo(0, 3), words("a"), words("a"), nil, words("a")})
	namesAre(t, nodes, 5, toldNames{fromTo(0, 5), words("a"), words("a"), nil, nil})
	nodes = nodesOf([]string{"name a", "name b", "num 1", "fn 0 1 2", "fn 0 1 3", "name a", "list 4 5"})
	namesAre(t, nodes, 4, toldNames{fromTo(0, 4), words("a b"), words("a b"), nil, words("a b")})
	namesAre(t, nodes, 6, toldNames{fromTo(0, 6), words("a b"), words("a b"), nil, words("b")})
	// An arrow that stands behind a node, or beside it, gives it no name.
	namesAre(t, nodes, 0, toldNames{[]int{0}, words("a"), nil, words("a"), nil})
	for k := -1; k <= len(nodes); k++ {
		namesAreByWord(t, nodes, k)
	}
}

func TestFreshNames(t *testing.T) {
	nodes := readTree(t, namesSource)
	for base, want := range map[string]string{
		"free": "free", "all": "all2", "item": "item2", "kept": "kept2", "args": "args2", "_": "_", "first": "first2", "ALL": "ALL", "al": "al", "all2": "all2",
		// Texts of nodes of other kinds: a class, methods, what stands behind a dot, an NdSet, an NdVar.
		"Box": "Box2", "put": "put2", "main": "main2", "size": "size2", "last": "last2", "unused": "unused2",
		"": "", "1": "", "'unused'": "", "+": "", "// size": "", "a b": "", "all.size": "",
		// Key words are names, as SignsOf has them.
		"class": "class", "var": "var", "if": "if", "else": "else", "while": "while", "return": "return",
	} {
		freshIs(t, nodes, base, want)
	}
	for _, c := range []struct{ texts, base, want string }{
		{"", "a", "a"}, {"a", "a", "a2"}, {"a2", "a", "a"}, {"a a2", "a", "a3"}, {"a a3", "a", "a2"}, {"a a2 a3 a5", "a", "a4"}, {"a2 a3", "a", "a"}, {"a a1 a0 a02", "a", "a2"}, {"a2", "a2", "a22"}, {"a2 a22", "a2", "a23"}, {"a a2 a3 a4 a5 a6 a7 a8 a9", "a", "a10"}, {"b b2", "a", "a"}, {"A", "a", "a"}, {"aa", "a", "a"},
	} {
		list := []impl.Node{}
		for _, text := range words(c.texts) {
			list = append(list, impl.Node{Kind: impl.NdName, Text: text})
		}
		freshIs(t, list, c.base, c.want)
	}
}

func TestFreshNamesOfAnyKind(t *testing.T) {
	for _, kind := range append(fromTo(-1, impl.NdFile+2), math.MinInt, math.MaxInt) {
		for _, kids := range [][]int{nil, {0}, {-5, 7}} {
			freshIs(t, []impl.Node{{Kind: kind, Text: "a", Kids: kids, Blank: true}}, "a", "a2")
			freshIs(t, []impl.Node{{Kind: kind, Text: "a", Kids: kids}, {}, {Kind: kind, Text: "a2"}}, "a", "a3")
		}
	}
	many := []impl.Node{{Text: "a"}}
	for number := 2; number <= 1200; number++ {
		many = append(many, impl.Node{Text: "a" + strconv.Itoa(number)})
	}
	rand.New(rand.NewSource(1)).Shuffle(len(many), func(i, j int) { many[i], many[j] = many[j], many[i] })
	freshIs(t, many, "a", "a1201")
	freshIs(t, many[1:], "a", freshByWord(many[1:], "a"))
}

func TestFreshNamesAtTheLimit(t *testing.T) {
	for size := 1; size <= mostBase; size++ {
		base := strings.Repeat("n", size)
		freshIs(t, nil, base, base)
		freshIs(t, []impl.Node{{Text: base}}, base, base+"2")
		freshIs(t, []impl.Node{{Text: base}, {Text: base + "2"}}, base, base+"3")
	}
	for _, size := range []int{mostBase + 1, mostBase + 2, mostName, mostName + 1, impl.MaxSource, impl.MaxSource + 1, 100000} {
		freshIs(t, nil, strings.Repeat("n", size), "")
		freshIs(t, nil, "_"+strings.Repeat("9", size-1), "")
	}
	freshIs(t, nil, "_"+strings.Repeat("9", mostBase-1), "_"+strings.Repeat("9", mostBase-1))
	for _, base := range noNames {
		freshIs(t, nil, base, "")
		freshIs(t, []impl.Node{{Text: base}}, base, "")
	}
}

func TestFreshNamesOfSmallTexts(t *testing.T) {
	nodes := []impl.Node{{Text: "a"}, {Text: "a2"}, {Text: "1"}, {Text: ""}}
	eachSignText(func(text string) { freshIs(t, nodes, text, freshByWord(nodes, text)) })
}

func TestMembersInByHand(t *testing.T) {
	placesAreMembers(t, readTree(t, ""))
	placesAreMembers(t, readTree(t, "// n\n"))
	placesAreMembers(t, readTree(t, "var a;"), 0)
	placesAreMembers(t, readTree(t, "class C{}"), 0)
	placesAreMembers(t, readTree(t, "class C{// n\n}// n\n"), 1)
	// A variable in a block is no member.
	placesAreMembers(t, readTree(t, "m(){var a;// n\n}"), 3)
	placesAreMembers(t, readTree(t, "class C{var a=1;m(){var b;}var c;}var d;n(){}"), 1, 4, 5, 6, 7, 9)
	// The members of a file, or of a class, may stand in another order than their nodes.
	nodes := nodesOf([]string{"var a", "var b", "note // n", "class C 1 2 0", "block", "method m 4", "var c", "file 6 3 5"})
	placesAreMembers(t, nodes, 0, 1, 3, 5, 6)
	for size := range 14 {
		nodes := readTree(t, strings.Repeat("var a;", min(size, mostKids)))
		placesAreMembers(t, nodes, fromTo(0, min(size, mostKids)-1)...)
	}
}

func TestMembersInTheMostNodes(t *testing.T) {
	for _, size := range []int{1, 2, 3, 26, 27, 28, 299, 300} {
		nodes := wideTree(size)
		placesAreMembers(t, nodes, memberPlacesByWord(nodes)...)
		if count := len(impl.MembersIn(nodes)); size > 3 && count < size/3 {
			t.Errorf("a tree of %d nodes has %d members", size, count)
		}
	}
	// One node too many: there are no members, but the names are told.
	nodes := wideTree(impl.MaxNodes + 1)
	placesAreMembers(t, nodes)
	namesAre(t, nodes, impl.MaxNodes, toldNames{fromTo(0, impl.MaxNodes), words("a"), words("v"), words("a"), words("v")})
	isNotRenamed(t, nodes, 1, "v", "w")
	renamesAndBack(t, wideTree(impl.MaxNodes), 1, "v", "w")
}

func TestNamesOfMoreNodesThanATreeHas(t *testing.T) {
	m, kids := &treeMaker{}, []int{}
	for k := range 5000 {
		m.add(impl.NdName, "n"+strconv.Itoa(k%700))
	}
	for k := range 12 {
		kids = append(kids, m.add(impl.NdFn, "", 100*k, 100*k+1, 4999-k))
	}
	last := m.add(impl.NdList, "", kids...)
	namesAreByWord(t, m.nodes[:last+1], last)
	if count := len(impl.UnderOf(m.nodes, last)); count != 12*4+1 {
		t.Errorf("%d nodes are under a list of arrows", count)
	}
	countNameIs(t, m.nodes, last, "n100", 2)
}

func TestNamesOfTheDeepest(t *testing.T) {
	for pars := range 16 {
		nodes := nested(pars)
		last := len(nodes) - 1
		for k := range nodes {
			if k >= impl.MaxDeep {
				hasNoNames(t, nodes, k)
				continue
			}
			lets := []string{}
			if k > pars {
				lets = words("v")
			}
			namesAre(t, nodes, k, toldNames{fromTo(0, k), words("a"), lets, words("a"), lets})
			countNameIs(t, nodes, k, "a", 1)
		}
		if last < impl.MaxDeep {
			placesAreMembers(t, nodes, last-1)
			renamesAndBack(t, nodes, last-1, "a", "b")
			continue
		}
		placesAreMembers(t, nodes)
		isNotRenamed(t, nodes, last-1, "a", "b")
	}
}

func TestRenamedByHand(t *testing.T) {
	nodes := readTree(t, namesSource)
	for _, c := range []struct {
		k           int
		from, to    string
		old, change string
	}{
		{3, "all", "total", "var all", "var total"}, {3, "first", "x", "[first", "[x"},
		// What stands behind a dot keeps its name, and so do other members.
		{6, "size", "wide", "var size", "var wide"}, {6, "all", "size2", "= all.size", "= size2.size"},
		{31, "spare", "more", "spare", "more"}, {31, "last", "end", "last = 1", "end = 1"},
		{31, "kept", "held", "var kept = (item, other) => item + size;\n    kept = add(item)..put(size, kept);\n    last = 1;\n    return kept;", "var held = (item, other) => item + size;\n    held = add(item)..put(size, held);\n    last = 1;\n    return held;"},
		{31, "item", "one", "put(item, spare) {\n    var kept = (item, other) => item + size;\n    kept = add(item)", "put(one, spare) {\n    var kept = (one, other) => one + size;\n    kept = add(one)"},
		// The method is called so, too, and keeps its name.
		{31, "put", "set", "..put(", "..set("},
		{44, "args", "all", "main(args) {\n  var unused;\n  while (args) {\n    print(args,", "main(all) {\n  var unused;\n  while (all) {\n    print(all,"},
		{44, "unused", "used", "var unused;", "var used;"}, {44, "print", "main", "print(", "main("},
	} {
		other := renamesAndBack(t, nodes, c.k, c.from, c.to)
		want := readTree(t, strings.Replace(namesSource, c.old, c.change, 1))
		if !impl.SameTree(other, want) || strings.Count(namesSource, c.old) == 0 {
			t.Errorf("Renamed(.., %d, %q, %q) is %v; want %v", c.k, c.from, c.to, other, want)
		}
	}
}

func TestRenamedLeavesOtherMembers(t *testing.T) {
	source := "var a=a;class C{var a=a;a(a){var a=(a)=>a.a;a=a;a..a('a');// a\n}}a(a){a=a;}"
	nodes := readTree(t, source)
	for _, k := range impl.MembersIn(nodes) {
		if nodes[k].Kind == impl.NdClass {
			isNotRenamed(t, nodes, k, "a", "b")
			continue
		}
		renamesAndBack(t, nodes, k, "a", "b")
		renamesAndBack(t, nodes, k, "a", "C")
	}
	texts := []string{}
	for _, k := range impl.MembersIn(nodes) {
		other, _ := impl.Renamed(nodes, k, "a", "b")
		texts = append(texts, strings.ReplaceAll(impl.Flat(impl.SignsIn(other)), " ", ""))
	}
	linesAre(t, "each member Renamed", texts,
		"vara=b;classC{vara=a;a(a){vara=(a)=>a.a;a=a;a..a('a');//a\n}}a(a){a=a;}"[:0]+"varb=b;classC{vara=a;a(a){vara=(a)=>a.a;a=a;a..a('a');//a\n}}a(a){a=a;}",
		"vara=a;classC{varb=b;a(a){vara=(a)=>a.a;a=a;a..a('a');//a\n}}a(a){a=a;}",
		"vara=a;classC{vara=a;a(b){varb=(b)=>b.a;b=b;b..b('a');//a\n}}a(a){a=a;}",
		"vara=a;classC{vara=a;a(a){vara=(a)=>a.a;a=a;a..a('a');//a\n}}a(a){a=a;}",
		"vara=a;classC{vara=a;a(a){vara=(a)=>a.a;a=a;a..a('a');//a\n}}a(b){b=b;}")
}

func TestRenamedRefusesPlaces(t *testing.T) {
	nodes := readTree(t, namesSource)
	members := 0
	for k := range nodes {
		for _, from := range nodes {
			if _, ok := isRenamed(t, nodes, k, from.Text, "nowhere"); ok {
				members++
			}
		}
		if node := nodes[k]; node.Kind != impl.NdMethod && !slices.Contains(impl.MembersIn(nodes), k) {
			isNotRenamed(t, nodes, k, "size", "nowhere")
		}
	}
	if members < 20 {
		t.Errorf("only %d names are Renamed", members)
	}
	for _, k := range farFrom(len(nodes)) {
		isNotRenamed(t, nodes, k, "all", "nowhere")
		hasNoNames(t, nodes, k)
	}
	// The class, the file, a note, a variable in a block.
	for _, k := range []int{32, 45, 7, 16, 34} {
		isNotRenamed(t, nodes, k, "size", "nowhere")
		isNotRenamed(t, nodes, k, "kept", "nowhere")
		isNotRenamed(t, nodes, k, "unused", "nowhere")
	}
	// The same place when the tree is not right: a node more, one less, two files.
	for _, wrong := range [][]impl.Node{append(cloneTree(nodes), impl.Node{Kind: impl.NdName, Text: "a"}), nodes[:len(nodes)-1], append(cloneTree(nodes), impl.Node{Kind: impl.NdFile})} {
		for _, k := range []int{3, 6, 31, 44} {
			placesAreMembers(t, wrong)
			isNotRenamed(t, wrong, k, "all", "nowhere")
			isNotRenamed(t, wrong, k, "size", "nowhere")
			isNotRenamed(t, wrong, k, "args", "nowhere")
			namesAre(t, wrong, k, namesByWord(nodes, k))
		}
	}
}

func TestRenamedRefusesNames(t *testing.T) {
	nodes := readTree(t, namesSource)
	// Not under it, or not the Text of an NdName, NdVar or NdSet there.
	for _, from := range append([]string{"all", "first", "main", "Box", "nowhere", "1", "+", "'unused'", "// size", "ite", "items"}, noNames...) {
		isNotRenamed(t, nodes, 31, from, "nowhere2")
	}
	isNotRenamed(t, nodes, 44, "main", "nowhere")
	isNotRenamed(t, nodes, 44, "'unused'", "'used'")
	isNotRenamed(t, nodes, 6, "Box", "nowhere")
	// There already.
	for _, to := range words("item spare kept other size add put last") {
		isNotRenamed(t, nodes, 31, "item", to)
		isNotRenamed(t, nodes, 31, to, to)
	}
	isNotRenamed(t, nodes, 3, "all", "all")
	// Elsewhere alone, or as the Text of another node there.
	for _, to := range words("all first second args print unused Box main") {
		renamesAndBack(t, nodes, 31, "item", to)
	}
	renamesAndBack(t, nodes, 6, "all", "size2")
	renamesAndBack(t, nodes, 44, "args", "main")
	for _, to := range noNames {
		isNotRenamed(t, nodes, 31, "item", to)
		isNotRenamed(t, nodes, 3, "all", to)
	}
}

func TestRenamedAtTheLimit(t *testing.T) {
	nodes := readTree(t, namesSource)
	for size := 1; size <= mostName; size++ {
		renamesAndBack(t, nodes, 31, "item", strings.Repeat("n", size))
		renamesAndBack(t, nodes, 3, "all", "_"+strings.Repeat("9", size-1))
	}
	isNotRenamed(t, nodes, 31, "item", strings.Repeat("n", mostName+1))
	isNotRenamed(t, nodes, 3, "all", "_"+strings.Repeat("9", mostName))
	// Key words are names, as SignsOf has them; what is told by SignsIn is no source then.
	for _, to := range keyWords {
		renamesAndBack(t, nodes, 31, "item", to)
	}
	eachSignText(func(text string) { isRenamed(t, nodes[len(nodes)-1:], 0, "a", text) })
	small := readTree(t, "m(a){b=a;}")
	eachSignText(func(text string) {
		if _, ok := isRenamed(t, small, impl.MembersIn(small)[0], "b", text); ok != (nameForm.MatchString(text) && text != "a" && text != "b") {
			t.Fatalf("Renamed to %q is %v", text, ok)
		}
	})
}

func TestNamesOfWrongTrees(t *testing.T) {
	for _, nodes := range wrongTrees() {
		placesAreMembers(t, nodes)
		for k := -2; k < len(nodes)+2; k++ {
			namesAreByWord(t, nodes, k)
			isNotRenamed(t, nodes, k, "a", "nowhere")
			isNotRenamed(t, nodes, k, "v", "nowhere")
		}
		hasNoNames(t, nodes, farFrom(len(nodes))...)
		freshIs(t, nodes, "v", freshByWord(nodes, "v"))
	}
	hasNoNames(t, nil, 0)
	// Kids that are no places, and far ones.
	for _, kid := range []int{math.MinInt, -1, 1, 2, math.MaxInt} {
		for kind := -1; kind <= impl.NdFile+1; kind++ {
			nodes := []impl.Node{{Kind: impl.NdName, Text: "a"}, {Kind: kind, Text: rightTexts[kind], Kids: []int{kid}}, {Kind: impl.NdFile, Kids: []int{0, 1}}}
			hasNoNames(t, nodes, 1, 2)
			placesAreMembers(t, nodes)
			isNotRenamed(t, nodes, 1, "a", "b")
			namesAre(t, nodes, 0, toldNames{[]int{0}, words("a"), nil, words("a"), nil})
		}
	}
}

// allNames holds everything that the chapter tells of a list of nodes.
func allNames(t *testing.T, nodes []impl.Node) {
	t.Helper()
	held := cloneTree(nodes)
	for k := -1; k <= len(nodes); k++ {
		namesAreByWord(t, nodes, k)
	}
	placesAreMembers(t, nodes, memberPlacesByWord(nodes)...)
	for _, base := range []string{"a", "b", "v", "c_1", "Long"} {
		freshIs(t, nodes, base, freshByWord(nodes, base))
	}
	if !impl.SameTree(nodes, held) {
		t.Fatalf("a list is %v behind its calls; want %v", nodes, held)
	}
}

// renamesAll has each name of each member in the place of others; it tells how many are.
func renamesAll(t *testing.T, nodes []impl.Node) int {
	t.Helper()
	count := 0
	for _, k := range impl.MembersIn(nodes) {
		if nodes[k].Kind == impl.NdClass {
			continue
		}
		under := impl.UnderOf(nodes, k)
		for _, name := range textsWhere(nodes, under, func(place int) bool { return mayBear(nodes[place].Kind) }) {
			renamesAndBack(t, nodes, k, name, impl.FreshName(nodes, "fresh"))
			renamesAndBack(t, nodes, k, name, impl.FreshName(nodes, name))
			count++
		}
	}
	return count
}

func TestNamesOfAnyTree(t *testing.T) {
	whole, _ := wholeTree()
	allNames(t, whole)
	count := renamesAll(t, whole)
	for seed := range int64(150) {
		nodes := anyTree(seed)
		allNames(t, nodes)
		count += renamesAll(t, nodes)
	}
	if count < 300 {
		t.Errorf("only %d names are Renamed", count)
	}
}

func TestNamesOfAnySource(t *testing.T) {
	free, unused, renamed := 0, 0, 0
	for seed := range int64(100) {
		nodes := anySource(seed).nodes
		allNames(t, nodes)
		renamed += renamesAll(t, nodes)
		for _, k := range impl.MembersIn(nodes) {
			free, unused = free+len(impl.FreeIn(nodes, k)), unused+len(impl.Unused(nodes, k))
			for _, name := range []string{"a", "b", "c_1", "Long", "_", "iff", "vars", "do_it", "+", "12", "nowhere"} {
				isRenamed(t, nodes, k, name, "a")
				isRenamed(t, nodes, k, "b", name)
			}
		}
	}
	if free < 200 || unused < 200 || renamed < 300 {
		t.Errorf("%d names are free, %d unused, %d Renamed", free, unused, renamed)
	}
}

func TestNamesOfTurnedTrees(t *testing.T) {
	rights := 0
	for seed := range int64(600) {
		nodes, chance := anyTree(seed), rand.New(rand.NewSource(seed))
		turnOneThing(chance, nodes)
		allNames(t, nodes)
		for range 8 {
			isRenamed(t, nodes, chance.Intn(len(nodes)+2)-1, []string{"a", "v", "s"}[chance.Intn(3)], []string{"b", "a", "v", "1", "C"}[chance.Intn(5)])
		}
		if impl.TreeOk(nodes) {
			rights++
			renamesAll(t, nodes)
		}
	}
	if rights < 60 || rights > 540 {
		t.Errorf("%d of the turned trees are right", rights)
	}
}

// anyShared makes nodes by chance, each with any of those ahead that its kind may have, so that a node may be the kid of many.
func anyShared(seed int64) []impl.Node {
	chance, m := rand.New(rand.NewSource(seed)), &treeMaker{}
	for len(m.nodes) < 24 {
		kind, kids := 1+chance.Intn(impl.NdBlock), []int{}
		for range chance.Intn(4) {
			if len(m.nodes) > 0 {
				kids = append(kids, chance.Intn(len(m.nodes)))
			}
		}
		text := rightTexts[kind]
		if nameForm.MatchString(text) {
			text = string(rune('a' + chance.Intn(4)))
		}
		k := m.add(kind, text, kids...)
		if deepByWord(m.nodes, k) == 0 {
			m.nodes = m.nodes[:k]
		}
	}
	return m.nodes
}

func TestNamesOfNodesOfSeveral(t *testing.T) {
	lets, shared := 0, 0
	for seed := range int64(800) {
		nodes := anyShared(seed)
		allNames(t, nodes)
		for k := range nodes {
			lets += len(impl.LetsIn(nodes, k))
			kids := 0
			for _, place := range impl.UnderOf(nodes, k) {
				kids += len(nodes[place].Kids)
			}
			if kids >= len(impl.UnderOf(nodes, k)) {
				shared++
			}
		}
	}
	if lets < 1500 || shared < 800 {
		t.Errorf("they let %d names, and %d nodes have one under them by more than one way", lets, shared)
	}
}

// TestNamesAreNewMemory looks for what is answered in what was handed in.
func TestNamesAreNewMemory(t *testing.T) {
	nodes := readTree(t, namesSource)
	handed := []string{}
	for _, node := range nodes {
		handed = append(handed, node.Text)
	}
	base, from, to := strings.Clone("a_base"), strings.Clone("item"), strings.Clone("another_one")
	handed = append(handed, base, from, to)
	for k := range nodes {
		for _, list := range [][]string{impl.NamesIn(nodes, k), impl.LetsIn(nodes, k), impl.FreeIn(nodes, k), impl.Unused(nodes, k)} {
			isNewMemory(t, "the names", list, handed)
		}
	}
	isNewMemory(t, "FreshName", []string{impl.FreshName(nodes, base)}, handed)
	for _, k := range []int{31, 32, -1} {
		list, _ := impl.Renamed(nodes, k, from, to)
		texts := []string{}
		for _, node := range list {
			texts = append(texts, node.Text)
		}
		isNewMemory(t, "Renamed", texts, handed)
		for i, node := range list {
			for j := range node.Kids[:cap(node.Kids)] {
				node.Kids[:cap(node.Kids)][j] = -7
			}
			list[i].Text = "turned"
		}
		for _, node := range list {
			if slices.ContainsFunc(node.Kids, func(kid int) bool { return kid != -7 }) {
				t.Error("lists of one answer share their room")
			}
		}
	}
	if !impl.SameTree(nodes, readTree(t, namesSource)) {
		t.Error("an answer that was changed changes the nodes")
	}
	for _, again := range []func() []int{func() []int { return impl.UnderOf(nodes, 45) }, func() []int { return impl.MembersIn(nodes) }} {
		list, want := again(), again()
		for i := range list[:cap(list)] {
			list[:cap(list)][i] = -7
		}
		if !slices.Equal(again(), want) || !impl.SameTree(nodes, readTree(t, namesSource)) {
			t.Error("an answer that was changed changes the next one, or the nodes")
		}
	}
}

func TestNamesLeaveTheLists(t *testing.T) {
	// The Kids lie in one list, the nodes in another one, with room behind them.
	kids := []int{0, 1, 7, 7, 7}
	room := []impl.Node{{Kind: impl.NdName, Text: "a"}, {Kind: impl.NdNum, Text: "1"}, {Kind: impl.NdFn, Kids: kids[:2]}, {Kind: impl.NdVar, Text: "v", Kids: []int{2}}, {Kind: impl.NdFile, Kids: []int{3}}, {Kind: 99, Text: "spare"}}
	want, wantKids := cloneTree(room), slices.Clone(kids)
	for range 2 {
		allNames(t, room[:5])
		isRenamed(t, room[:5], 3, "a", "b")
		isRenamed(t, room[:5], 3, "spare", "b")
		isRenamed(t, room, 3, "a", "b")
		freshIs(t, room[:5], "spare", "spare")
		freshIs(t, room, "spare", "spare2")
	}
	if list, ok := impl.Renamed(room[:5], 3, "a", "b"); !ok || len(list) != 5 {
		t.Errorf("Renamed of a list with spare room is %v, %v", list, ok)
	}
	if !slices.Equal(kids, wantKids) || !impl.SameTree(room, want) {
		t.Errorf("a list is %v, %v behind its calls; want %v, %v", room, kids, want, wantKids)
	}
}

func TestNamesKeepNothing(t *testing.T) {
	asks := []func() string{}
	whole, _ := wholeTree()
	for _, nodes := range [][]impl.Node{nil, readTree(t, namesSource), whole, nested(12), wideTree(impl.MaxNodes), wideTree(impl.MaxNodes + 1), anyShared(3), {{}}} {
		for _, k := range []int{-1, 0, 3, 31, len(nodes) - 1, len(nodes)} {
			asks = append(asks, func() string {
				list, ok := impl.Renamed(nodes, k, "a", "z")
				return fmt.Sprint(impl.UnderOf(nodes, k), impl.NamesIn(nodes, k), impl.LetsIn(nodes, k), impl.FreeIn(nodes, k), impl.Unused(nodes, k), impl.MembersIn(nodes), list, ok)
			})
			asks = append(asks, func() string { return fmt.Sprint(impl.CountName(nodes, k, "a"), impl.FreshName(nodes, "a")) })
		}
	}
	keepNothing(t, asks)
}
