package tests

import (
	"fmt"
	"math"
	"slices"
	"strings"
	"testing"

	"loop.example/g00459/impl"
)

const (
	mostRunSteps = 1000
	mostRunCalls = 20
)

// wordRun does a method as the chapter's words say, without a panic: once there is a code, nothing more is done. It has cells in a map, as no two of a method have one name.
type wordRun struct {
	nodes []impl.Node
	most  int
	ran   impl.Ran
}

func (w *wordRun) fault() int {
	if w.ran.Code == 0 {
		w.ran.Code = impl.RnFault
	}
	return 0
}

func ofRight(num int) bool {
	return num <= impl.MaxValue && -num <= impl.MaxValue && num != math.MinInt
}

func (w *wordRun) inRange(num int) int {
	if !ofRight(num) {
		return w.fault()
	}
	return num
}

func (w *wordRun) value(cells map[string]int, deep int, k int) int {
	if w.ran.Code != 0 {
		return 0
	}
	switch node := w.nodes[k]; node.Kind {
	case impl.NdNum:
		if len(node.Text) > 9 {
			return w.fault()
		}
		num := 0
		for _, figure := range []byte(node.Text) {
			num = num*10 + int(figure-'0')
		}
		return num
	case impl.NdName:
		num, is := cells[node.Text]
		if !is {
			return w.fault()
		}
		return num
	case impl.NdPar:
		return w.value(cells, deep, node.Kids[0])
	case impl.NdPick:
		if w.value(cells, deep, node.Kids[0]) != 0 {
			return w.value(cells, deep, node.Kids[1])
		}
		return w.value(cells, deep, node.Kids[2])
	case impl.NdChain:
		return w.chain(cells, deep, node)
	case impl.NdCall:
		return w.call(cells, deep, node.Kids)
	}
	return w.fault()
}

func (w *wordRun) chain(cells map[string]int, deep int, node impl.Node) int {
	ask := func(i int) int { return w.value(cells, deep, node.Kids[i]) }
	switch node.Text {
	case "&&", "||":
		for i := range node.Kids {
			if is := ask(i) != 0; is == (node.Text == "||") {
				return numOf(is)
			}
		}
		return numOf(node.Text == "&&")
	case "==", "<":
		if len(node.Kids) > 2 {
			return w.fault()
		}
		a, b := ask(0), ask(1)
		return numOf(node.Text == "==" && a == b || node.Text == "<" && a < b)
	}
	num := ask(0)
	for i := 1; i < len(node.Kids) && w.ran.Code == 0; i++ {
		switch other := ask(i); node.Text {
		case "+":
			num = w.inRange(num + other)
		case "-":
			num = w.inRange(num - other)
		default:
			num = w.inRange(num * other)
		}
	}
	return num
}

func numOf(is bool) int {
	return map[bool]int{true: 1}[is]
}

func (w *wordRun) call(cells map[string]int, deep int, kids []int) int {
	called, nums := w.nodes[kids[0]], []int{}
	if called.Kind != impl.NdName {
		return w.fault()
	}
	for _, kid := range kids[1:] {
		nums = append(nums, w.value(cells, deep, kid))
	}
	switch {
	case w.ran.Code != 0:
		return 0
	case called.Text == "print" && len(nums) == 1:
		w.ran.Out = append(w.ran.Out, nums[0])
		return 0
	}
	return w.method(called.Text, nums, deep+1)
}

// method is in so many calls as it is deep; the one that is asked for is in none.
func (w *wordRun) method(name string, args []int, deep int) int {
	place := methodByWord(w.nodes, name)
	if place < 0 || deep > mostRunCalls || len(w.nodes[place].Kids) != len(args)+1 {
		return w.fault()
	}
	cells, last := map[string]int{}, len(args)
	for i, arg := range args {
		cells[w.nodes[w.nodes[place].Kids[i]].Text] = arg
	}
	ret, _ := w.block(cells, deep, w.nodes[place].Kids[last])
	return ret
}

// block tells what it answers, and whether it is left with that.
func (w *wordRun) block(cells map[string]int, deep int, k int) (int, bool) {
	for _, kid := range w.nodes[k].Kids {
		if w.nodes[kid].Kind == impl.NdNote || !w.step() {
			continue
		}
		if ret, left := w.statement(cells, deep, w.nodes[kid]); left {
			return ret, true
		}
	}
	return 0, false
}

func (w *wordRun) step() bool {
	if w.ran.Code != 0 {
		return false
	}
	if w.ran.Steps+1 > w.most {
		w.ran.Code = impl.RnSteps
		return false
	}
	w.ran.Steps++
	return true
}

func (w *wordRun) statement(cells map[string]int, deep int, node impl.Node) (int, bool) {
	ask := func() int { return w.value(cells, deep, node.Kids[0]) }
	switch node.Kind {
	case impl.NdVar, impl.NdReturn:
		num := 0
		if len(node.Kids) > 0 {
			num = ask()
		}
		if node.Kind == impl.NdReturn {
			return num, true
		}
		cells[node.Text] = num
	case impl.NdSet:
		num := ask()
		if _, is := cells[node.Text]; !is {
			w.fault()
		}
		cells[node.Text] = num
	case impl.NdDo:
		ask()
	case impl.NdIf:
		if ask() != 0 {
			return w.block(cells, deep, node.Kids[1])
		}
		if w.ran.Code == 0 && len(node.Kids) == 3 {
			return w.block(cells, deep, node.Kids[2])
		}
	case impl.NdWhile:
		for ask() != 0 {
			if ret, left := w.block(cells, deep, node.Kids[1]); left {
				return ret, true
			}
			if !w.step() {
				break
			}
		}
	}
	return 0, false
}

func methodByWord(nodes []impl.Node, name string) int {
	if !impl.TreeOk(nodes) {
		return -1
	}
	for _, kid := range nodes[len(nodes)-1].Kids {
		if node := nodes[kid]; node.Kind == impl.NdMethod && node.Text == name {
			return kid
		}
	}
	return -1
}

func ranByWord(nodes []impl.Node, name string, args []int, steps int) impl.Ran {
	w := &wordRun{nodes: nodes, most: min(steps, mostRunSteps)}
	if !impl.TreeOk(nodes) || slices.ContainsFunc(args, func(arg int) bool { return !ofRight(arg) }) {
		w.fault()
		return w.ran
	}
	ret := w.method(name, args, 0)
	if w.ran.Code == 0 {
		w.ran.Ret = ret
	}
	return w.ran
}

// sameRan is by hand, as SameRan is asked for, too.
func sameRan(a impl.Ran, b impl.Ran) bool {
	return fmt.Sprint(a) == fmt.Sprint(b)
}

// runIs asks what the method does, and holds it by word.
func runIs(t *testing.T, nodes []impl.Node, name string, args []int, steps int) impl.Ran {
	t.Helper()
	held, heldArgs := cloneTree(nodes), slices.Clone(args)
	got, want := impl.RunMethod(nodes, name, args, steps), ranByWord(nodes, name, args, steps)
	if !sameRan(got, want) {
		t.Fatalf("RunMethod(%v, %q, %v, %d) is %v; want %v", nodes, name, args, steps, got, want)
	}
	if !impl.SameTree(nodes, held) || !slices.Equal(args, heldArgs) {
		t.Fatalf("RunMethod(%v, %q, %v, %d) changes what it is handed", held, name, heldArgs, steps)
	}
	return got
}

// sourceRuns asks for the method of a source, which need not be read.
func sourceRuns(t *testing.T, source string, name string, args []int, steps int) impl.Ran {
	t.Helper()
	nodes, _, _ := impl.ReadSource(source)
	got, want := impl.RunSource(source, name, args, steps), runIs(t, nodes, name, args, steps)
	if !sameRan(got, want) {
		t.Fatalf("RunSource(%q, %q, %v, %d) is %v; of what is read it is %v", source, name, args, steps, got, want)
	}
	return got
}

// runsTo has by hand what the method m of a source does with enough steps.
func runsTo(t *testing.T, source string, args []int, want impl.Ran) {
	t.Helper()
	readTree(t, source)
	if got := sourceRuns(t, source, "m", args, mostRunSteps); !sameRan(got, want) {
		t.Errorf("%q does %v of %v; want %v", source, got, args, want)
	}
	runsStepByStep(t, source, "m", args)
}

// runsStepByStep asks with fewer steps and with more: with fewer it is a beginning.
func runsStepByStep(t *testing.T, source string, name string, args []int) {
	t.Helper()
	all := impl.RunSource(source, name, args, mostRunSteps)
	for _, steps := range stepsToAsk(all.Steps) {
		got := sourceRuns(t, source, name, args, steps)
		// What takes no step is done with none, and with fewer than none.
		if max(steps, 0) >= all.Steps {
			if !sameRan(got, all) {
				t.Fatalf("%q does %v of %v with %d steps, and %v with more", source, got, args, steps, all)
			}
			continue
		}
		begun := len(got.Out) <= len(all.Out) && slices.Equal(got.Out, all.Out[:len(got.Out)])
		if !begun || got.Ret != 0 || got.Code != impl.RnSteps || got.Steps != max(steps, 0) {
			t.Fatalf("%q does %v of %v with %d steps, which is no beginning of %v", source, got, args, steps, all)
		}
	}
}

// stepsToAsk are those about none, about all, and all between when there are few.
func stepsToAsk(all int) []int {
	list := []int{math.MinInt, -1, 0, 1, all / 2, all - 1, all, all + 1, mostRunSteps, mostRunSteps + 1, math.MaxInt}
	if all < 40 {
		list = append(list, fromTo(0, all)...)
	}
	return list
}

func answers(ret int, steps int, out ...int) impl.Ran {
	return impl.Ran{Out: out, Ret: ret, Steps: steps}
}

func faults(steps int, out ...int) impl.Ran {
	return impl.Ran{Out: out, Code: impl.RnFault, Steps: steps}
}

// bodyRuns is of statements alone, with the cells a and b, 7 and 3; and other methods to call.
func bodyRuns(t *testing.T, body string, want impl.Ran) {
	t.Helper()
	runsTo(t, "m(a, b) {"+body+"} none() {} one() { return 1; } tell(x) { print(x); return x; } two(x, y) { return x - y; }", []int{7, 3}, want)
}

// valueRuns is of a value that is returned in one step.
func valueRuns(t *testing.T, value string, ret int, out ...int) {
	t.Helper()
	bodyRuns(t, "return "+value+";", answers(ret, 1, out...))
}

// valueFaults is of values that can't be.
func valueFaults(t *testing.T, values ...string) {
	t.Helper()
	for _, value := range values {
		bodyRuns(t, "return "+value+";", faults(1))
		bodyRuns(t, "print(1); print("+value+"); print(2);", faults(2, 1))
	}
}

func cellsOf(texts ...string) []impl.Cell {
	list := []impl.Cell{}
	for i, text := range texts {
		list = append(list, impl.Cell{Name: text, Num: i + 1})
	}
	return list
}

func cellIs(t *testing.T, list []impl.Cell, name string, num int, is bool) {
	t.Helper()
	if got, ok := impl.CellNum(list, name); got != num || ok != is {
		t.Errorf("CellNum(%v, %q) is %d, %v; want %d, %v", list, name, got, ok, num, is)
	}
}

// putIs puts a number, and asks for it.
func putIs(t *testing.T, list []impl.Cell, name string, num int, want ...impl.Cell) {
	t.Helper()
	held := slices.Clone(list)
	got := impl.CellPut(list, name, num)
	if !slices.Equal(got, want) || !slices.Equal(list, held) {
		t.Errorf("CellPut(%v, %q, %d) is %v; want %v", held, name, num, got, want)
	}
	cellIs(t, got, name, num, true)
	for _, cell := range list {
		if cell.Name == name {
			continue
		}
		was, _ := impl.CellNum(list, cell.Name)
		cellIs(t, got, cell.Name, was, true)
	}
}

func TestCells(t *testing.T) {
	list := cellsOf("a", "b", "a", "c")
	cellIs(t, list, "a", 1, true)
	cellIs(t, list, "b", 2, true)
	cellIs(t, list, "c", 4, true)
	for _, name := range []string{"", "A", "d", "ab", "a ", "\x00"} {
		cellIs(t, list, name, 0, false)
		cellIs(t, nil, name, 0, false)
		cellIs(t, []impl.Cell{}, name, 0, false)
	}
	cellIs(t, cellsOf("", "a", ""), "", 1, true)
	cellIs(t, []impl.Cell{{Name: "a"}, {Name: "a", Num: 5}}, "a", 0, true)
	cellIs(t, []impl.Cell{{Name: "a", Num: math.MinInt}}, "a", math.MinInt, true)
}

func TestCellsThatArePut(t *testing.T) {
	list := cellsOf("a", "b", "a", "c")
	a, b, more, c := list[0], list[1], list[2], list[3]
	putIs(t, list, "a", 9, impl.Cell{Name: "a", Num: 9}, b, more, c)
	putIs(t, list, "b", 9, a, impl.Cell{Name: "b", Num: 9}, more, c)
	putIs(t, list, "c", 9, a, b, more, impl.Cell{Name: "c", Num: 9})
	putIs(t, list, "d", 9, a, b, more, c, impl.Cell{Name: "d", Num: 9})
	putIs(t, list, "a", 1, a, b, more, c)
	putIs(t, list, "", 0, a, b, more, c, impl.Cell{})
	putIs(t, nil, "a", 0, impl.Cell{Name: "a"})
	putIs(t, []impl.Cell{}, "no name", -5, impl.Cell{Name: "no name", Num: -5})
	for _, num := range append([]int{impl.MaxValue, impl.MaxValue + 1, -impl.MaxValue - 1}, oddNumbers...) {
		putIs(t, cellsOf("a", "b"), "b", num, cellsOf("a")[0], impl.Cell{Name: "b", Num: num})
		putIs(t, cellsOf("a"), "b", num, cellsOf("a")[0], impl.Cell{Name: "b", Num: num})
	}
}

func TestCellsAreNewMemory(t *testing.T) {
	names := []string{"first", "second"}
	name := strings.Clone("third")
	// The spare room behind the list has a cell of its own.
	list := withRoom([]impl.Cell{{Name: names[0], Num: 1}, {Name: names[1], Num: 2}})
	room := slices.Clone(list[:cap(list)])
	for _, put := range []string{names[0], name} {
		got := impl.CellPut(list, put, 7)
		texts := []string{}
		for _, cell := range got {
			texts = append(texts, cell.Name)
		}
		isNewMemory(t, "CellPut", texts, append(names, name))
		got = got[:cap(got)]
		for i := range got {
			got[i] = impl.Cell{Name: "turned", Num: -1}
		}
		if !slices.Equal(list[:cap(list)], room) {
			t.Errorf("CellPut of %q changes the list, or the room behind it: %v", put, list[:cap(list)])
		}
	}
}

func methodAtIs(t *testing.T, nodes []impl.Node, name string, want int) {
	t.Helper()
	if got := impl.MethodAt(nodes, name); got != want || got != methodByWord(nodes, name) {
		t.Errorf("MethodAt(%v, %q) is %d; want %d", nodes, name, got, want)
	}
}

func TestPlacesOfMethods(t *testing.T) {
	nodes := readTree(t, "var a; class C { c() {} a() {} } a() {} // a note\na(x) {} b() { a(); } var b;")
	methodAtIs(t, nodes, "a", 7)
	methodAtIs(t, nodes, "b", 16)
	for _, name := range []string{"", "c", "C", "x", "A", "a ", "aa", "// a note"} {
		methodAtIs(t, nodes, name, -1)
	}
	// Members stand in the order of the Kids, in which they are told.
	nodes = nodesOf([]string{"block", "method m 0", "block", "method m 2", "file 3 1"})
	methodAtIs(t, nodes, "m", 3)
	methodAtIs(t, nodesOf([]string{"block", "method m 0", "block", "method m 2", "file 1 3"}), "m", 1)
	// A word that is a key word is a name of a node, too.
	methodAtIs(t, nodesOf([]string{"block", "method if 0", "file 1"}), "if", 1)
	methodAtIs(t, nodesOf([]string{"file"}), "m", -1)
}

func TestNoMethodsOfWrongTrees(t *testing.T) {
	for why, nodes := range wrongTrees() {
		for _, name := range []string{"m", "a", ""} {
			methodAtIs(t, nodes, name, -1)
			for _, steps := range []int{-1, 0, 5, mostRunSteps} {
				if got := runIs(t, nodes, name, nil, steps); !sameRan(got, faults(0)) {
					t.Errorf("%s: what it does is %v", why, got)
				}
			}
		}
	}
	whole, _ := wholeTree()
	methodAtIs(t, whole, "m", -1)
	right := nodesOf([]string{"block", "method m 0", "file 1"})
	methodAtIs(t, right, "m", 1)
	methodAtIs(t, right[:2], "m", -1)
	methodAtIs(t, append(right, impl.Node{Kind: impl.NdFile, Kids: []int{1}}), "m", -1)
}

func TestStatementsRun(t *testing.T) {
	bodyRuns(t, "", answers(0, 0))
	bodyRuns(t, "// a note\n", answers(0, 0))
	bodyRuns(t, "// a note\n print(1); // another one\n\n// more\n return 2; // end\n", answers(2, 2, 1))
	bodyRuns(t, "var c; return c;", answers(0, 2))
	bodyRuns(t, "var c = 5; return c;", answers(5, 2))
	bodyRuns(t, "var c = 5; var c; return c;", answers(0, 3))
	bodyRuns(t, "var c = 5; var c = c + c; return c;", answers(10, 3))
	bodyRuns(t, "var a = a + 1; return a * 10 + b;", answers(83, 2))
	bodyRuns(t, "a = b; b = 9; return a * 10 + b;", answers(39, 3))
	bodyRuns(t, "a = a + a; a = a + a; return a;", answers(28, 3))
	bodyRuns(t, "a; 1; b + 2;", answers(0, 3))
	bodyRuns(t, "print(a); print(b);", answers(0, 2, 7, 3))
	bodyRuns(t, "return; print(1);", answers(0, 1))
	bodyRuns(t, "return a; return b;", answers(7, 1))
	bodyRuns(t, "print(1); return tell(2); print(3);", answers(2, 4, 1, 2))
}

func TestBranchesRun(t *testing.T) {
	bodyRuns(t, "if (a) { print(1); } print(2);", answers(0, 3, 1, 2))
	bodyRuns(t, "if (0) { print(1); } print(2);", answers(0, 2, 2))
	bodyRuns(t, "if (a) { print(1); } else { print(2); }", answers(0, 2, 1))
	bodyRuns(t, "if (0) { print(1); } else { print(2); print(3); }", answers(0, 3, 2, 3))
	bodyRuns(t, "if (0 - 1) { return 1; } else { return 2; }", answers(1, 2))
	bodyRuns(t, "if (0 - 0) { return 1; } else {} return 3;", answers(3, 2))
	bodyRuns(t, "if (a) {} else { return 2; } return 3;", answers(3, 2))
	bodyRuns(t, "if (a) { // a note\n}", answers(0, 1))
	bodyRuns(t, "if (a) { var c = 4; } return c;", answers(4, 3))
	bodyRuns(t, "if (a) { if (0) { return 1; } else { if (b) { return 5; } } } return 6;", answers(5, 4))
	bodyRuns(t, "if (tell(0)) { print(1); } else { print(2); }", answers(0, 4, 0, 2))
}

func TestLoopsRun(t *testing.T) {
	bodyRuns(t, "while (0) { print(1); } return 4;", answers(4, 2))
	bodyRuns(t, "while (0) {}", answers(0, 1))
	bodyRuns(t, "while (b) { b = b - 1; }", answers(0, 1+3*2))
	bodyRuns(t, "while (0 < b) { print(b); b = b - 1; // a note\n} return b;", answers(0, 2+3*3, 3, 2, 1))
	bodyRuns(t, "while (tell(b)) { b = 0; } return 1;", answers(1, 8, 3, 0))
	// A method is left out of a block in a loop.
	bodyRuns(t, "while (1) { a = a - 1; if (a == b) { return a; } print(a); } print(99);", answers(3, 1+3*4+3, 6, 5, 4))
	bodyRuns(t, "while (1) { while (2) { if (3) { return; } } }", answers(0, 4))
	bodyRuns(t, "var i = 0; while (i < 2) { var j = 0; while (j < 2) { print(i * 10 + j); j = j + 1; } i = i + 1; } return j;", answers(2, 2+2*10+1, 0, 1, 10, 11))
	// What is wrong the second time alone is told then.
	bodyRuns(t, "var i = 3; while (i - 2 && 1 || c) { print(i); i = i - 1; }", faults(5, 3))
}

func TestLoopsThatNeverEnd(t *testing.T) {
	want := impl.Ran{Code: impl.RnSteps, Steps: mostRunSteps}
	bodyRuns(t, "while (1) {}", want)
	bodyRuns(t, "while (1) { // a note\n}", want)
	bodyRuns(t, "while (none() == 0) { none(); }", want)
	bodyRuns(t, "while (one()) {}", want)
	bodyRuns(t, "while (1) { if (0) { return 1; } }", want)
	want.Out = slices.Repeat([]int{7}, mostRunSteps/2)
	bodyRuns(t, "while (a) { print(a); }", want)
	// Its last step is the one that asks for the last time, with all that there are.
	for _, count := range []int{498, 499, 500} {
		source := fmt.Sprintf("m() { var i = %d; while (i) { i = i - 1; } }", count)
		all := answers(0, 2+2*count)
		if all.Steps > mostRunSteps {
			all.Code, all.Steps = impl.RnSteps, mostRunSteps
		}
		runsTo(t, source, nil, all)
	}
}

func TestNumbersAndNamesRun(t *testing.T) {
	valueRuns(t, "0", 0)
	valueRuns(t, "42", 42)
	valueRuns(t, "007", 7)
	valueRuns(t, "999999999", 999999999)
	valueRuns(t, "000000000", 0)
	valueRuns(t, "000000012", 12)
	valueFaults(t, "1000000000", "0000000000", "0000000001", "999999999999", "000000000000", "000000000009")
	valueRuns(t, "a", 7)
	valueRuns(t, "(a)", 7)
	valueRuns(t, "(((b)))", 3)
	valueRuns(t, "((5))", 5)
	valueFaults(t, "c", "A", "m", "none", "print", "(c)", "a1")
	// What has a cell in the method that calls has none in the one that is called; nor has a variable of the file.
	runsTo(t, "m(a) { var c = 1; print(a + c); return f(a); } f(b) { print(b); return c; }", []int{5}, faults(5, 6, 5))
	runsTo(t, "m(a) { return f(); } f() { a = 1; }", []int{5}, faults(2))
	runsTo(t, "var c = 1; m() { return c; }", nil, faults(1))
	runsTo(t, "class C { var c = 1; } var c; m() { c = 1; }", nil, faults(1))
	// What is called has cells of its own, also under the same names, and they are gone behind it.
	runsTo(t, "m(a) { f(a + 1); print(a); var b = f(a); return a; } f(a) { a = a * 2; var b = 9; print(b + a); }", []int{5}, answers(5, 10, 21, 5, 19))
	runsTo(t, "m() { f(); return b; } f() { var b = 9; }", nil, faults(3))
	runsTo(t, "m() { f(1); f(0); } f(x) { if (x) { var y = 1; } print(y); }", nil, faults(7, 1))
}

func TestChainsRun(t *testing.T) {
	valueRuns(t, "a + b", 10)
	valueRuns(t, "b - a", -4)
	valueRuns(t, "a * b", 21)
	valueRuns(t, "a - b - 1 - 1", 2)
	valueRuns(t, "a - (b - 1)", 5)
	valueRuns(t, "a + b - 1 + 2", 11)
	valueRuns(t, "a * b * 0 * 9", 0)
	valueRuns(t, "a + b * 2", 13)
	valueRuns(t, "(a + b) * 2", 20)
	valueRuns(t, "a == 7", 1)
	valueRuns(t, "a == b", 0)
	valueRuns(t, "b < a", 1)
	valueRuns(t, "a < b", 0)
	valueRuns(t, "a < a", 0)
	valueRuns(t, "0 - 1 < 0", 1)
	valueRuns(t, "b < a == 1", 1)
	valueRuns(t, "(a == 7) == 1", 1)
	valueRuns(t, "(1 < 2) < 2", 1)
	bodyRuns(t, "return tell(1) + tell(2) * tell(3);", answers(7, 7, 1, 2, 3))
	valueFaults(t, "a == b == 0", "a < b < 0", "1 == 1 == 1", "(1 < 2 < 3)", "1 + c", "c - 1", "1 * (2 == 2 == 2)")
	// Such a chain is none that there is: its values are not done.
	bodyRuns(t, "return tell(1) == tell(2) == 3;", faults(1))
	bodyRuns(t, "return tell(1) < tell(2) < c;", faults(1))
	bodyRuns(t, "return tell(1) + c + tell(2);", faults(3, 1))
	bodyRuns(t, "return tell(1) == c;", faults(3, 1))
}

func TestTruthsRun(t *testing.T) {
	for _, c := range []struct {
		value string
		ret   int
		out   []int
	}{
		{"tell(0) && tell(1)", 0, []int{0}},
		{"tell(1) && tell(0)", 0, []int{1, 0}},
		{"tell(2) && tell(5)", 1, []int{2, 5}},
		{"tell(1) && tell(0) && tell(3)", 0, []int{1, 0}},
		{"tell(1) && tell(2) && tell(3)", 1, []int{1, 2, 3}},
		{"tell(1) && tell(2) && tell(0)", 0, []int{1, 2, 0}},
		{"tell(4) || tell(1)", 1, []int{4}},
		{"tell(0) || tell(4)", 1, []int{0, 4}},
		{"tell(0) || tell(0)", 0, []int{0, 0}},
		{"tell(0) || tell(3) || tell(1)", 1, []int{0, 3}},
		{"tell(0) || tell(0) || tell(9)", 1, []int{0, 0, 9}},
		{"tell(0) || tell(0) || tell(0)", 0, []int{0, 0, 0}},
		{"tell(0) && tell(1) || tell(2) && tell(3)", 1, []int{0, 2, 3}},
		{"tell(0 - 3) && 1", 1, []int{-3}},
	} {
		bodyRuns(t, "return "+c.value+";", answers(c.ret, 1+2*len(c.out), c.out...))
	}
	// What is not needed may be what can't be.
	valueRuns(t, "0 && c", 0)
	valueRuns(t, "1 || c", 1)
	valueRuns(t, "0 && 'text' || 2", 1)
	valueRuns(t, "0 || 1 || 1234567890", 1)
	valueRuns(t, "1 && 0 && (1 == 1 == 1)", 0)
	valueFaults(t, "1 && c", "0 || c", "c && 0", "c || 1", "0 || 0 || c")
}

func TestPicksRun(t *testing.T) {
	bodyRuns(t, "return tell(1) ? tell(2) : tell(3);", answers(2, 5, 1, 2))
	bodyRuns(t, "return tell(0) ? tell(2) : tell(3);", answers(3, 5, 0, 3))
	valueRuns(t, "a ? b : c", 3)
	valueRuns(t, "0 ? c : b", 3)
	valueRuns(t, "0 - 1 ? 4 : 5", 4)
	valueRuns(t, "a == b ? 1 : b == 3 ? 2 : 3", 2)
	valueRuns(t, "(a ? 1 : 2) + (0 ? 10 : 20)", 21)
	valueFaults(t, "c ? 1 : 2", "1 ? c : 2", "0 ? 1 : c", "0 ? 1 : 'text'")
}

func TestCallsRun(t *testing.T) {
	bodyRuns(t, "return none();", answers(0, 1))
	bodyRuns(t, "return one();", answers(1, 2))
	bodyRuns(t, "return two(a, b);", answers(4, 2))
	bodyRuns(t, "return two(b, a);", answers(-4, 2))
	bodyRuns(t, "return two(two(9, 1), two(5, one()));", answers(4, 5))
	bodyRuns(t, "return two(tell(1), tell(2)) + tell(3);", answers(2, 8, 1, 2, 3))
	// Values are done ahead of the call, which may be one that can't be.
	for _, call := range []string{"none(tell(1))", "two(tell(1))", "two(tell(1), 2, 3)", "other(tell(1))", "m(tell(1))", "C(tell(1))", "print(tell(1), 2)"} {
		bodyRuns(t, "print(0); return "+call+";", faults(4, 0, 1))
	}
	valueFaults(t, "none(1)", "one(1)", "tell()", "tell(1, 2)", "two(1)", "two(1, 2, 3)", "other()", "a()", "a(1)", "m()", "m(1)", "m(1, 2, 3)", "print()", "print(1, 2)")
	// What is called is no name.
	valueFaults(t, "(one)()", "(print)(5)", "one()()", "tell(5)(5)", "a.one()", "1()", "'one'()", "[one]()", "(a ? one : one)()", "(() => 1)()", "tell(1).x", "(two)(print(3), print(4))")
	// A method of a class is none of the file; of two of the file the first one is.
	runsTo(t, "class C { f() { return 1; } } m() { return f(); }", nil, faults(1))
	runsTo(t, "class C { f() { return 1; } } f() { return 2; } m() { return f(); } f() { return 3; }", nil, answers(2, 2))
	runsTo(t, "f(x) { return 2; } m() { return f(); } f() { return 3; }", nil, faults(1))
	runsTo(t, "f() { return 2; } m() { return f(5); } f(x) { return 3; }", nil, faults(1))
	runsTo(t, "class C { m() { return 1; } } m(x) { return 2; }", []int{0}, answers(2, 1))
	runsTo(t, "class C { m() { return 1; } }", nil, faults(0))
	runsTo(t, "m(x) { return 1; } m() { return 2; }", nil, faults(0))
	runsTo(t, "m(x) { return 1; } m() { return 2; }", []int{5}, answers(1, 1))
}

func TestPrintRuns(t *testing.T) {
	valueRuns(t, "print(5)", 0, 5)
	valueRuns(t, "print(print(5))", 0, 5, 0)
	valueRuns(t, "print(1) + print(2) - print(0 - 3)", 0, 1, 2, -3)
	valueRuns(t, "print(a) ? 1 : b", 3, 7)
	// With one value it tells, whatever methods there are; else it is a method like others.
	runsTo(t, "print(x) { return 5; } m() { return print(2); }", nil, answers(0, 1, 2))
	runsTo(t, "print() { return 5; } m() { return print(); }", nil, answers(5, 2))
	runsTo(t, "print(x, y) { print(x + y); return 5; } m() { return print(2, 4); }", nil, answers(5, 3, 6))
	runsTo(t, "print(x, y) { return 5; } m() { return print(); }", nil, faults(1))
	runsTo(t, "m() { var print = 4; print(print); print = 5; return print; }", nil, answers(5, 4, 4))
	const source = "print(x) { print(x + 1); return x; }"
	if got := sourceRuns(t, source, "print", []int{4}, 9); !sameRan(got, answers(4, 2, 5)) {
		t.Errorf("the method print does %v", got)
	}
	if got := sourceRuns(t, "m() { print(1); }", "print", []int{4}, 9); !sameRan(got, faults(0)) {
		t.Errorf("print, which is no method, does %v", got)
	}
}

func TestSettingsRun(t *testing.T) {
	bodyRuns(t, "c = tell(5); print(6);", faults(3, 5))
	bodyRuns(t, "c = print(5);", faults(1, 5))
	bodyRuns(t, "c = d;", faults(1))
	bodyRuns(t, "var c; c = tell(5); return c;", answers(5, 5, 5))
	bodyRuns(t, "var c = c;", faults(1))
	bodyRuns(t, "var c = tell(4) + d;", faults(3, 4))
	bodyRuns(t, "if (0) { var c = 1; } c = 2;", faults(2))
	// A name of a method or a class has no cell.
	bodyRuns(t, "one = 2;", faults(1))
}

func TestWhatCanNotBe(t *testing.T) {
	valueFaults(t, "'text'", "''", "[]", "[1, 2]", "a.b", "a.b()", "() => 1", "(x) => x", "1..one()", "a..two(1)..one()", "(1..one())", "('text')", "1 + 'text'", "two(1, [2])", "[a] == [a]")
	bodyRuns(t, "[tell(1)];", faults(1))
	bodyRuns(t, "tell(1)..tell(2);", faults(1))
	bodyRuns(t, "tell(1).size;", faults(1))
	bodyRuns(t, "print('text');", faults(1))
	bodyRuns(t, "if ('text') { print(1); } else { print(2); }", faults(1))
	bodyRuns(t, "while ([]) {}", faults(1))
	bodyRuns(t, "tell(1); var c = 'text'; tell(2);", faults(4, 1))
	bodyRuns(t, "return one() + tell(3) + two(1, c);", faults(4, 3))
	// A fault in what is called ends all, also in a loop of what calls.
	runsTo(t, "m() { while (1) { print(f(2)); print(f(0)); } print(9); } f(x) { if (x) { return 3; } return y; }", nil, faults(7, 3))
}

func TestNamesOfMethods(t *testing.T) {
	runsTo(t, "m(a, a) { return a; }", []int{4, 5}, answers(5, 1))
	runsTo(t, "m(a, b, a) { print(a); a = 1; return a + b; }", []int{4, 5, 6}, answers(6, 3, 6))
	runsTo(t, "m(a, a) { return a; }", []int{4}, faults(0))
	runsTo(t, "m() { return f(1, 2, 3); } f(x, y, x) { return x * 10 + y; }", nil, answers(32, 2))
	names := "a, b, c, d, e, f, g, h, i, j, k"
	args := fromTo(1, mostKids-1)
	runsTo(t, "m("+names+") { return f("+names+"); } f("+names+") { return k * 10 + j; }", args, answers(120, 2))
	for count := range mostKids + 3 {
		want := faults(0)
		if count == mostKids-1 {
			want = answers(11, 1)
		}
		runsTo(t, "m("+names+") { return k; }", fromTo(1, count), want)
	}
	// Key words are names of nodes.
	nodes := nodesOf([]string{"name if", "name if", "return 1", "block 2", "method else 0 3", "file 4"})
	if got := runIs(t, nodes, "else", []int{6}, 5); !sameRan(got, answers(6, 1)) {
		t.Errorf("a method whose name is a key word does %v", got)
	}
}

// downFrom counts down, as a method that calls itself with one less does.
func downFrom(from int, to int) []int {
	list := fromTo(to, from)
	slices.Reverse(list)
	return list
}

// One that tells its number, and calls with one less till it is 0: itself, two in turn, three in turn, or another one that calls itself.
const (
	callsItself     = "m(n) { print(n); if (n) { return m(n - 1) + 1; } return 7; }"
	callsInTurn     = "m(n) { print(n); if (n) { return f(n - 1) + 1; } return 7; } f(n) { print(n); if (n) { return m(n - 1) + 1; } return 7; }"
	callsAllInTurn  = "m(n) { print(n); if (n) { return f(n - 1) + 1; } return 7; } f(n) { print(n); if (n) { return g(n - 1) + 1; } return 7; } g(n) { print(n); if (n) { return m(n - 1) + 1; } return 7; }"
	callsAnotherOne = "m(n) { print(n); if (n) { return f(n - 1) + 1; } return 7; } f(n) { print(n); if (n) { return f(n - 1) + 1; } return 7; }"
)

func TestCallsInOneAnother(t *testing.T) {
	for _, source := range []string{callsItself, callsInTurn, callsAllInTurn, callsAnotherOne} {
		// The method that is asked for is no call: with 0 there is none, with 20 there are 20 in one another.
		for calls := range mostRunCalls + 1 {
			runsTo(t, source, []int{calls}, answers(7+calls, 3*(calls+1), downFrom(calls, 0)...))
		}
		// One more would be 21 deep: it takes no step, and what was told stays.
		for _, calls := range []int{mostRunCalls + 1, mostRunCalls + 2, 2 * mostRunCalls, 100, impl.MaxValue} {
			last := calls - mostRunCalls
			runsTo(t, source, []int{calls}, faults(3*(mostRunCalls+1), downFrom(calls, last)...))
		}
	}
}

func TestCallsInOneAnotherWithFewSteps(t *testing.T) {
	all := 3 * (mostRunCalls + 1)
	for _, source := range []string{callsItself, callsInTurn} {
		// The call that is 21 deep is refused behind the last step, not for want of one.
		got := sourceRuns(t, source, "m", []int{mostRunCalls + 1}, all)
		if want := faults(all, downFrom(mostRunCalls+1, 1)...); !sameRan(got, want) {
			t.Errorf("%q with %d steps does %v; want %v", source, all, got, want)
		}
		// The one that is 20 deep has its first step to take.
		got = sourceRuns(t, source, "m", []int{mostRunCalls}, all-3)
		want := impl.Ran{Out: downFrom(mostRunCalls, 1), Code: impl.RnSteps, Steps: all - 3}
		if !sameRan(got, want) {
			t.Errorf("%q with %d steps does %v; want %v", source, all-3, got, want)
		}
	}
}

func TestCallsInOneAnotherWhereverTheyStand(t *testing.T) {
	// In each way m calls itself once; other is called only when that is left.
	ways := []string{
		"return m(n - 1);", "m(n - 1);", "var a = m(n - 1);", "n = m(n - 1);", "if (m(n - 1)) {}", "while (m(n - 1)) {}",
		"print(m(n - 1));", "return 1 + m(n - 1) * 2;", "return m(n - 1) == 0;", "return 0 || m(n - 1);", "return 1 && m(n - 1);",
		"return m(n - 1) ? 1 : 2;", "return n ? m(n - 1) : 2;", "return ((m(n - 1)));", "if (n) { m(n - 1); }", "if (0) {} else { m(n - 1); }", "while (1) { return m(n - 1); }",
		"other(m(n - 1));", "return other(other(m(n - 1)));",
	}
	for _, way := range ways {
		source := "m(n) { if (n == 0) { return 0; } " + way + " } other(x) { return 0; }"
		readTree(t, source)
		for _, c := range []struct{ calls, code int }{
			{mostRunCalls - 1, 0}, {mostRunCalls, 0}, {mostRunCalls + 1, impl.RnFault}, {3 * mostRunCalls, impl.RnFault},
		} {
			if got := sourceRuns(t, source, "m", []int{c.calls}, mostRunSteps); got.Code != c.code {
				t.Errorf("%q does %v of %d; want the code %d", source, got, c.calls, c.code)
			}
		}
	}
}

func TestCallsThatAreLeft(t *testing.T) {
	const never = "m(n) { print(n); m(n + 1); }"
	runsTo(t, never, []int{1}, faults(2*(mostRunCalls+1), fromTo(1, mostRunCalls+1)...))
	// A value of a call is no deeper than the call, whatever it is a value of.
	const values = "m(n) { if (n == 1) { return f(f(f(0))); } return m(n - 1); } f(x) { return x + 1; }"
	runsTo(t, values, []int{mostRunCalls}, answers(3, 2*mostRunCalls+3))
	runsTo(t, values, []int{mostRunCalls + 1}, faults(2*(mostRunCalls+1)))
	many := inOneAnother("f(", "0", ")", 8)
	runsTo(t, "m(n) { return n ? m(n - 1) : "+many+"; } f(x) { return x + 1; }", []int{mostRunCalls - 1}, answers(8, mostRunCalls+8))
	// Its values are done, though it is refused.
	const told = "m(n) { if (n) { return m(n - 1); } return f(f(5)); } f(x) { print(x); return x + 1; }"
	runsTo(t, told, []int{mostRunCalls - 1}, answers(7, 2*mostRunCalls+4, 5, 6))
	runsTo(t, told, []int{mostRunCalls}, faults(2*(mostRunCalls+1)))
	const printed = "m(n) { if (n) { return m(n - 1); } return f(print(5)); } f(x) { return 3; }"
	runsTo(t, printed, []int{mostRunCalls - 1}, answers(3, 2*mostRunCalls+1, 5))
	runsTo(t, printed, []int{mostRunCalls}, faults(2*(mostRunCalls+1), 5))
	// What is told is no call of a method, so it may be told in the last one, and in itself.
	const tells = "m(n) { if (n) { return m(n - 1); } return print(print(n)) + 4; }"
	runsTo(t, tells, []int{mostRunCalls}, answers(4, 2*mostRunCalls+2, 0, 0))
	many = inOneAnother("print(", "5", ")", 8)
	runsTo(t, "m(n) { return n ? m(n - 1) : "+many+"; }", []int{mostRunCalls}, answers(0, mostRunCalls+1, append([]int{5}, make([]int, 7)...)...))
	// How deep it was counts no more when it is left.
	runsTo(t, "m() { var i = 0; while (i < 30) { f(15); i = i + 1; } return i; } f(n) { if (n == 1) { return 0; } return f(n - 1); }", nil, answers(30, 3+30*33))
	const twice = "m() { return f(19) + f(19); } f(n) { return n ? f(n - 1) + 1 : 0; }"
	runsTo(t, twice, nil, answers(38, 41))
	runsTo(t, strings.ReplaceAll(twice, "19", "20"), nil, faults(21))
}

func TestMethodsThatCallThemselvesHaveTheirCells(t *testing.T) {
	runsTo(t, "m(n) { if (n < 2) { return n; } var a = m(n - 1); var b = m(n - 2); print(a + b); return a + b; }", []int{4}, answers(3, 4*5+5*2, 1, 2, 1, 3))
	runsTo(t, "m(n) { var i = n; if (n) { m(n - 1); } print(i); return n; }", []int{3}, answers(3, 4*4+3, 0, 1, 2, 3))
	runsTo(t, "m(n) { if (n) { even(n); } return i; } even(i) { return i == 0 ? 1 : odd(i - 1); } odd(i) { return i == 0 ? 0 : even(i - 1); }", []int{5}, faults(9))
	runsTo(t, "m(n) { return even(n); } even(i) { return i == 0 ? 1 : odd(i - 1); } odd(i) { return i == 0 ? 0 : even(i - 1); }", []int{5}, answers(0, 7))
}
