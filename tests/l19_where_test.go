package tests

import (
	"fmt"
	"math"
	"math/rand"
	"slices"
	"strings"
	"testing"

	"loop.example/g00459/impl"
)

// farPlaces are places where no sign of a source begins.
func farPlaces() []int {
	return []int{math.MinInt, math.MinInt + 1, -impl.MaxSource, -2, -1, impl.MaxSource, impl.MaxSource + 1, math.MaxInt - 1, math.MaxInt}
}

// signAtByWord goes through the whole list from its first sign on.
func signAtByWord(list []impl.Sign, at int) int {
	last := -1
	for i := range list {
		if begins := list[i].At; begins == at || begins < at {
			last = i
		}
	}
	return last
}

// placesByWord takes the signs by their forms, from the last one on, so that each knows what stands behind it.
func placesByWord(text string) []int {
	list, _, ok := signsByForms(text)
	if !ok {
		return nil
	}
	places, behind := []int{}, ""
	for _, sign := range slices.Backward(list) {
		if sign.Text != "," || behind != ")" && behind != "]" {
			places = append(places, sign.At)
		}
		behind = sign.Text
	}
	slices.Reverse(places)
	return places
}

func wentByWord(a string, b string, at int) int {
	from, to, went := placesByWord(a), placesByWord(b), -1
	for i, place := range from {
		if len(from) == len(to) && place <= at {
			went = to[i]
		}
	}
	return went
}

func signAtIs(t *testing.T, list []impl.Sign, at int, want int) {
	t.Helper()
	if got := impl.SignAt(list, at); got != want {
		t.Errorf("SignAt(%v, %d) is %d; want %d", list, at, got, want)
	}
}

func placesAre(t *testing.T, source string, want ...int) {
	t.Helper()
	if got := impl.PlacesOf(source); !slices.Equal(got, want) {
		t.Errorf("PlacesOf(%q) is %v; want %v", source, got, want)
	}
}

// placesStand has a `^` below each place of a source of one line.
func placesStand(t *testing.T, source string, below string) {
	t.Helper()
	want := []int{}
	for at := range len(below) {
		if below[at] == '^' {
			want = append(want, at)
		}
	}
	placesAre(t, source, want...)
}

func wentIs(t *testing.T, a string, b string, at int, want int) {
	t.Helper()
	if got := impl.WentTo(a, b, at); got != want {
		t.Errorf("WentTo(%q, %q, %d) is %d; want %d", a, b, at, got, want)
	}
}

// wentNowhere asks at each place, and far from all of them.
func wentNowhere(t *testing.T, a string, b string) {
	t.Helper()
	for at := -1; at <= len(a)+1; at++ {
		wentIs(t, a, b, at, -1)
	}
	for _, at := range farPlaces() {
		wentIs(t, a, b, at, -1)
	}
}

// isWhereByWord holds the three functions against what they are by the words of the chapter.
func isWhereByWord(t *testing.T, a string, b string, at int) {
	t.Helper()
	list, _, _ := impl.SignsOf(a)
	signAtIs(t, list, at, signAtByWord(list, at))
	placesAre(t, a, placesByWord(a)...)
	wentIs(t, a, b, at, wentByWord(a, b, at))
	wentIs(t, b, a, at, wentByWord(b, a, at))
}

// hasPlacesOfSigns holds each place of a source: a sign begins there, and it is behind the place ahead of it.
func hasPlacesOfSigns(t *testing.T, source string) {
	t.Helper()
	list, places := isRead(t, source), impl.PlacesOf(source)
	for i, place := range places {
		if number := impl.SignAt(list, place); number < 0 || list[number].At != place {
			t.Fatalf("PlacesOf(%q) is %v; no sign begins at %d", source, places, place)
		}
		if i > 0 && place <= places[i-1] {
			t.Fatalf("PlacesOf(%q) is %v, which don't ascend", source, places)
		}
	}
}

// wentInOrder holds promise 19 for two sources of the same words: a sign went to one that begins with the same byte, and a later one went behind it.
func wentInOrder(t *testing.T, a string, b string) {
	t.Helper()
	hasPlacesOfSigns(t, a)
	hasPlacesOfSigns(t, b)
	ahead, to := -1, impl.PlacesOf(b)
	for i, place := range impl.PlacesOf(a) {
		went := impl.WentTo(a, b, place)
		if went <= ahead || went != to[i] || b[went] != a[place] {
			t.Fatalf("WentTo(%q, %q, %d) is %d; the one ahead went to %d", a, b, place, went, ahead)
		}
		if back := impl.WentTo(b, a, went); back != place {
			t.Fatalf("WentTo(%q, %q, %d) is %d; want %d", b, a, went, back, place)
		}
		ahead = went
	}
}

// wentWithItsSign holds all places of a source: what is no beginning of a sign went where the sign ahead of it went.
func wentWithItsSign(t *testing.T, a string, b string) {
	t.Helper()
	places, went := impl.PlacesOf(a), -1
	for at := -2; at <= len(a)+2; at++ {
		if slices.Contains(places, at) {
			went = impl.WentTo(a, b, at)
		}
		wentIs(t, a, b, at, went)
	}
	wentIs(t, a, b, math.MinInt, -1)
	wentIs(t, a, b, math.MaxInt, went)
}

func TestSignAtOfTheDocument(t *testing.T) {
	list := isRead(t, "a  b")
	for at, want := range []int{0, 0, 0, 1, 1, 1} {
		signAtIs(t, list, at, want)
	}
	for _, at := range farPlaces() {
		want := 1
		if at < 0 {
			want = -1
		}
		signAtIs(t, list, at, want)
	}
}

func TestSignAtInASource(t *testing.T) {
	list := isRead(t, "\n // a b\n\nf('x y' ,);")
	// The signs are `// a b`, `f`, `(`, `'x y'`, `,`, `)` and `;`.
	for at, want := range []int{-1, -1, 0, 0, 0, 0, 0, 0, 0, 0, 1, 2, 3, 3, 3, 3, 3, 3, 4, 5, 6, 6} {
		signAtIs(t, list, at, want)
	}
	for i, sign := range list {
		signAtIs(t, list, sign.At, i)
		signAtIs(t, list, sign.At-1, i-1)
		signAtIs(t, list, sign.At+len(sign.Text)-1, i)
	}
}

func TestSignAtOfNothing(t *testing.T) {
	for _, at := range append(farPlaces(), 0, 1) {
		signAtIs(t, nil, at, -1)
		signAtIs(t, []impl.Sign{}, at, -1)
	}
}

func signsFrom(places ...int) []impl.Sign {
	list := []impl.Sign{}
	for _, place := range places {
		list = append(list, impl.Sign{Kind: impl.SgName, Text: "a", At: place})
	}
	return list
}

func TestSignAtOfSignsAtOnePlace(t *testing.T) {
	for _, c := range []struct {
		places   []int
		at, want int
	}{
		{[]int{3, 3}, 2, -1}, {[]int{3, 3}, 3, 1}, {[]int{3, 3}, 4, 1},
		{[]int{1, 3, 3, 3, 7}, 2, 0}, {[]int{1, 3, 3, 3, 7}, 3, 3}, {[]int{1, 3, 3, 3, 7}, 6, 3}, {[]int{1, 3, 3, 3, 7}, 7, 4},
		{[]int{0, 0, 0}, 0, 2}, {[]int{0, 0, 0}, -1, -1},
	} {
		signAtIs(t, signsFrom(c.places...), c.at, c.want)
	}
}

// TestSignAtOfSignsInNoOrder has lists in which the last sign is not the one that begins last.
func TestSignAtOfSignsInNoOrder(t *testing.T) {
	for _, c := range []struct {
		places   []int
		at, want int
	}{
		{[]int{9, 1}, 0, -1}, {[]int{9, 1}, 1, 1}, {[]int{9, 1}, 8, 1}, {[]int{9, 1}, 9, 1}, {[]int{9, 1}, 10, 1},
		{[]int{5, 9, 1, 7}, 1, 2}, {[]int{5, 9, 1, 7}, 5, 2}, {[]int{5, 9, 1, 7}, 7, 3}, {[]int{5, 9, 1, 7}, 9, 3}, {[]int{5, 9, 1, 7}, 0, -1},
		{[]int{5, 6, 9, 9}, 6, 1}, {[]int{5, 9, 6, 9}, 6, 2}, {[]int{9, 8, 7}, 8, 2}, {[]int{9, 8, 7}, 6, -1},
	} {
		signAtIs(t, signsFrom(c.places...), c.at, c.want)
	}
	for count := range 5 {
		eachList(count, 0, 4, func(v []int) {
			list := signsFrom(v...)
			for at := -1; at <= 5; at++ {
				signAtIs(t, list, at, signAtByWord(list, at))
			}
		})
	}
}

// TestSignAtOfOddSigns has signs that no source has: At alone tells where they begin.
func TestSignAtOfOddSigns(t *testing.T) {
	list := []impl.Sign{{Kind: 99, Text: "\xff\n", At: 4, Blank: true}, {Kind: -1, At: 6}, {Kind: impl.SgMark, Text: ",", At: 8}, {Kind: impl.SgMark, Text: ")", At: 9}}
	for at, want := range []int{-1, -1, -1, -1, 0, 0, 1, 1, 2, 3, 3} {
		signAtIs(t, list, at, want)
	}
	far := signsFrom(math.MaxInt, math.MinInt, math.MaxInt)
	signAtIs(t, far, math.MaxInt, 2)
	signAtIs(t, far, math.MaxInt-1, 1)
	signAtIs(t, far, 0, 1)
	signAtIs(t, far, math.MinInt, 1)
	signAtIs(t, signsFrom(math.MinInt+1, math.MaxInt), math.MinInt, -1)
	signAtIs(t, signsFrom(-4, -2, 0), -3, 0)
	signAtIs(t, signsFrom(math.MaxInt), math.MaxInt-1, -1)
}

func TestPlacesByHand(t *testing.T) {
	placesStand(t, "a", "^")
	placesStand(t, "  a  ", "  ^  ")
	placesStand(t, "a  b", "^  ^")
	placesStand(t, "ab12 345'c d'e", "^    ^  ^    ^")
	placesStand(t, "a==b=>=...c", "^^ ^^ ^^ ^^")
	placesStand(t, "var a = f(1, 'x y')..g(); // n, )", "^   ^ ^ ^^^^ ^    ^^ ^^^^ ^       ")
	placesAre(t, "// first\nvar a = 1; // second\n\nm(b) {\n  // third\n  return b;\n}\n", 0, 9, 13, 15, 17, 18, 20, 31, 32, 33, 34, 36, 40, 51, 58, 59, 61)
}

func TestPlacesOfSourcesWithoutSigns(t *testing.T) {
	for _, source := range []string{"", " ", "\n", " \n\n  ", blanks(impl.MaxSource)} {
		placesAre(t, source)
	}
}

// TestPlacesWithoutEnds has a `^` below each sign but those that are left out.
func TestPlacesWithoutEnds(t *testing.T) {
	placesStand(t, "f(1,)", "^^^ ^")
	placesStand(t, "f(1 , )", "^^^   ^")
	placesStand(t, "[1,]", "^^ ^")
	placesStand(t, "[1,\n]", "^^  ^")
	placesStand(t, ",)", " ^")
	placesStand(t, ",]", " ^")
	placesStand(t, "f(,)", "^^ ^")
	placesStand(t, "[,]", "^ ^")
	placesStand(t, "f([1,],)", "^^^^ ^ ^")
	placesStand(t, "f(1,)(2,)", "^^^ ^^^ ^")
	placesStand(t, "a,),]b", "^ ^ ^^")
	placesStand(t, "m(a, b,) {}", "^^^^ ^ ^ ^^")
	placesStand(t, "(a,) => [a,];", "^^ ^ ^  ^^ ^^")
}

// TestPlacesOfMarksThatStay has each `,` behind which no `)` and no `]` stands.
func TestPlacesOfMarksThatStay(t *testing.T) {
	placesStand(t, ",", "^")
	placesStand(t, "a,", "^^")
	placesStand(t, "f(1,2)", "^^^^^^")
	placesStand(t, "{1,}", "^^^^")
	placesStand(t, "1,;", "^^^")
	placesStand(t, "1,(2)", "^^^^^")
	placesStand(t, "1,[2]", "^^^^^")
	placesStand(t, ",')'", "^^  ")
	placesStand(t, ",']'", "^^  ")
	placesStand(t, "',')", "^  ^")
	placesStand(t, "',)' ]", "^    ^")
	placesStand(t, ", // )", "^ ^   ")
	placesAre(t, "f(1, // x\n)", 0, 1, 2, 3, 5, 10)
	placesAre(t, "f(1 //,\n)", 0, 1, 2, 4, 8)
	// Of two such marks one behind the other, the first is ahead of a `,`.
	placesStand(t, "f(1,,)", "^^^^ ^")
	placesStand(t, "[,,,]", "^^^ ^")
	placesStand(t, ",,", "^^")
}

func TestPlacesOfSmallRows(t *testing.T) {
	eachRow(5, []string{",", ")", "]", "(", "a"}, func(row []string) {
		isWhereByWord(t, spaced(row), strings.Join(row, ""), len(row))
	})
	eachRow(3, eachSign(), func(row []string) {
		placesAre(t, spaced(row), placesByWord(spaced(row))...)
	})
}

func TestPlacesOfWhatIsNoSource(t *testing.T) {
	for _, source := range []string{"$", "a $", "a b '", "'a", "\t", "a\tb", "\xff", "a /", "f(1,)\x00", "// \xe9", strings.Repeat("a", 31), strings.Repeat("1", 13)} {
		placesAre(t, source)
		wentNowhere(t, source, source)
		wentNowhere(t, source, "")
		wentNowhere(t, "", source)
		wentNowhere(t, source, "a")
		wentNowhere(t, "a", source)
		wentNowhere(t, "a b c", source)
	}
	// The signs are all that counts: what can't be read has places, too.
	placesStand(t, "var ) =", "^   ^ ^")
	wentIs(t, "var ) =", "var  )  =", 4, 5)
}

func TestPlacesOfEachByte(t *testing.T) {
	for _, b := range letters(allBytes()) {
		for _, text := range []string{b, "a" + b, b + "a", "a " + b + " b", "f(1," + b + ")", "'" + b + "'", "//" + b} {
			for _, other := range []string{"a", "a b", text} {
				isWhereByWord(t, text, other, 2)
			}
		}
	}
	eachSignText(func(text string) {
		if got := impl.PlacesOf(text); !slices.Equal(got, placesByWord(text)) {
			t.Fatalf("PlacesOf(%q) is %v; want %v", text, got, placesByWord(text))
		}
	})
}

func TestPlacesOfTheLongestSources(t *testing.T) {
	most := strings.Repeat(",", impl.MaxSource-1) + ")"
	places := impl.PlacesOf(most)
	if len(places) != impl.MaxSource-1 || places[impl.MaxSource-3] != impl.MaxSource-3 || places[impl.MaxSource-2] != impl.MaxSource-1 {
		t.Errorf("PlacesOf %d marks has %d places", impl.MaxSource, len(places))
	}
	wentIs(t, most, most, impl.MaxSource-2, impl.MaxSource-3)
	wentIs(t, most, most, impl.MaxSource-1, impl.MaxSource-1)
	wentIs(t, most, most, math.MaxInt, impl.MaxSource-1)
	last := blanks(impl.MaxSource-1) + "a"
	placesAre(t, last, impl.MaxSource-1)
	wentIs(t, last, "b", impl.MaxSource-2, -1)
	wentIs(t, last, "b", impl.MaxSource-1, 0)
	wentIs(t, "b", last, 0, impl.MaxSource-1)
	for _, longer := range []string{most + " ", last + " ", " " + last, last + "\n", strings.Repeat("a;", impl.MaxSource)} {
		placesAre(t, longer)
		for _, at := range append(farPlaces(), 0, 1) {
			wentIs(t, longer, "b", at, -1)
			wentIs(t, "b", longer, at, -1)
			wentIs(t, longer, longer, at, -1)
		}
	}
}

func TestWentByHand(t *testing.T) {
	for at, want := range []int{0, 0, 0, 2, 2, 2} {
		wentIs(t, "a  b", "a b", at, want)
	}
	for at, want := range []int{0, 0, 3, 3, 3} {
		wentIs(t, "a b", "a  b", at, want)
	}
	wentIs(t, "a", "a b", 0, -1)
	wentIs(t, "a b", "a", 0, -1)
	for _, at := range farPlaces() {
		want := 2
		if at < 0 {
			want = -1
		}
		wentIs(t, "a  b", "a b", at, want)
	}
}

// TestWentToWhatIsWritten asks at each place of a source, from ahead of its first sign on.
func TestWentToWhatIsWritten(t *testing.T) {
	source := " var v=f( a,'b c' , ); // n"
	written, _, code := impl.Format(source, 80, enough)
	if written != "var v = f(a, 'b c');\n// n\n" || code != 0 {
		t.Fatalf("Format(%q) is %q, %d", source, written, code)
	}
	for at, want := range []int{-1, 0, 0, 0, 0, 4, 6, 8, 9, 9, 10, 11, 13, 13, 13, 13, 13, 13, 13, 13, 18, 19, 19, 21, 21, 21, 21, 21, 21} {
		wentIs(t, source, written, at, want)
	}
	// And back: a sign that was left out is none to come back to.
	for at, want := range []int{1, 1, 1, 1, 5, 5, 6, 6, 7, 8, 10, 11, 11, 12, 12, 12, 12, 12, 20, 21, 21, 23, 23, 23, 23, 23, 23} {
		wentIs(t, written, source, at, want)
	}
}

func TestWentFromStatementsWithNotes(t *testing.T) {
	source := "// one\nvar a=1;//two\n\n\nm(b,){if(b){return [a,b,];}//three\n}"
	written := "// one\nvar a = 1;\n//two\n\nm(b) {\n  if (b) {\n    return [a, b];\n  }\n  //three\n}\n"
	if got, _, _ := impl.Format(source, 80, enough); got != written {
		t.Fatalf("Format(%q) is %q", source, got)
	}
	for _, word := range []string{"// one", "var", "1", "//two", "m(b", "if", "return", "[a", "//three"} {
		wentIs(t, source, written, strings.Index(source, word), strings.Index(written, word))
		wentIs(t, written, source, strings.Index(written, word), strings.Index(source, word))
	}
	// The marks at ends went where the sign ahead of them went.
	wentIs(t, source, written, strings.Index(source, ",)"), strings.Index(written, "b) {"))
	wentIs(t, source, written, strings.Index(source, ",]"), strings.Index(written, "b]"))
	wentInOrder(t, source, written)
	wentWithItsSign(t, source, written)
}

// TestWentFromASignThatIsLeftOut has such marks in one of two sources, and in both.
func TestWentFromASignThatIsLeftOut(t *testing.T) {
	for at, want := range []int{0, 1, 2, 2, 3, 3} {
		wentIs(t, "f(1,)", "f(1)", at, want)
	}
	for at, want := range []int{0, 1, 2, 4, 4} {
		wentIs(t, "f(1)", "f(1,)", at, want)
	}
	for at, want := range []int{0, 1, 2, 2, 4, 4} {
		wentIs(t, "f(1,)", "f(1,)", at, want)
	}
	// Ahead of the first sign that is not left out there is none.
	wentIs(t, ",)", ")", 0, -1)
	wentIs(t, ",)", ")", 1, 0)
	wentIs(t, ")", ",)", 0, 1)
	wentIs(t, ", ]a", "]a", 2, 0)
	for at, want := range []int{0, 1, 2, 3, 3, 4, 4, 5} {
		wentIs(t, "f([1,],)", "f([1])", at, want)
	}
	// The first of two stays, so that the other source must have it, too.
	wentIs(t, "f(1,,)", "f(1,)", 3, -1)
	wentIs(t, "f(1,,)", "f(1)", 0, -1)
	wentIs(t, "f(1,,)", "f(1 , , )", 3, 4)
	wentIs(t, "f(1,,)", "f(1 , , )", 4, 4)
	wentIs(t, "f(1,,)", "f(1 , , )", 5, 8)
}

func TestWentBetweenOtherSources(t *testing.T) {
	wentNowhere(t, "", "")
	wentNowhere(t, " ", "\n\n")
	wentNowhere(t, "", "a")
	wentNowhere(t, "a", "")
	wentNowhere(t, "a b c", "a b")
	wentNowhere(t, "a b", "a b c")
	wentNowhere(t, "f(1,2)", "f(1,)")
	wentNowhere(t, "{1}", "{1,}")
	wentNowhere(t, "var a;", "var a; // n")
	// The number of a sign is all that counts: it may be another one there.
	for at, want := range []int{1, 1, 5, 5, 11, 11, 11} {
		wentIs(t, "a b 'c'", " if  12345 // x", at, want)
	}
}

// oneOfTheSame puts the signs of a source apart in another way, with a `,` at some ends.
func oneOfTheSame(chance *rand.Rand, source string) string {
	var out strings.Builder
	ahead := ""
	for _, text := range textsIn(source) {
		isEnd := (text == ")" || text == "]") && ahead != "," && ahead != ""
		if isEnd && chance.Intn(3) == 0 {
			out.WriteString("," + blanks(chance.Intn(2)))
		}
		out.WriteString(text)
		if strings.HasPrefix(text, "//") {
			out.WriteString("\n")
		}
		out.WriteString(" " + blanks(chance.Intn(3)) + []string{"", "", "\n", "\n\n"}[chance.Intn(4)])
		ahead = text
	}
	return out.String()
}

func TestWentInManySources(t *testing.T) {
	for _, source := range manySources() {
		for _, width := range []int{leastWidth, 20, 80} {
			written, _, code := impl.Format(source, width, 10)
			if code != 0 {
				continue
			}
			wentInOrder(t, source, written)
			wentWithItsSign(t, source, written)
		}
	}
}

// TestWentInAnySource asks for all signs of sources that are not long, and for some places of all.
func TestWentInAnySource(t *testing.T) {
	written, short := 0, 0
	for seed, source := range byChance(400) {
		chance := rand.New(rand.NewSource(int64(seed)))
		hasPlacesOfSigns(t, source)
		other := oneOfTheSame(chance, source)
		out, _, code := impl.Format(source, leastWidth+chance.Intn(70), chance.Intn(60))
		for range 5 {
			isWhereByWord(t, source, other, chance.Intn(len(source)+20)-10)
			isWhereByWord(t, out, source, chance.Intn(len(out)+20)-10)
		}
		if code != 0 {
			continue
		}
		written++
		if len(source) < 400 {
			short++
			wentInOrder(t, source, other)
			wentInOrder(t, source, out)
			wentWithItsSign(t, other, out)
		}
	}
	if written < 300 || short < 100 {
		t.Errorf("%d are written, %d of them are short", written, short)
	}
}

func TestWentInALongSource(t *testing.T) {
	source := strings.Repeat("f([b,],);", 150)
	wentInOrder(t, source, spaced(textsIn(source)))
	wentIs(t, source, strings.Repeat("f([b]);", 150), math.MaxInt, 7*150-1)
}

func TestWentInTurnedSources(t *testing.T) {
	same, none := 0, 0
	sources := append(byChance(200), someSources()...)
	for seed := range int64(3000) {
		chance := rand.New(rand.NewSource(seed))
		source := sources[chance.Intn(len(sources))]
		turned := turnedByte(chance, source)
		for range chance.Intn(3) {
			turned = turnedByte(chance, turned)
		}
		at := chance.Intn(len(source)+20) - 5
		isWhereByWord(t, source, turned, at)
		if wentByWord(source, turned, at) >= 0 {
			same++
		} else {
			none++
		}
	}
	if same < 300 || none < 300 {
		t.Errorf("%d went, %d did not", same, none)
	}
}

func TestWentOfAnyBytes(t *testing.T) {
	for seed := range int64(3000) {
		chance := rand.New(rand.NewSource(seed))
		texts := [2]string{}
		for i := range texts {
			list := make([]byte, chance.Intn(12))
			for k := range list {
				if seed%2 == 0 {
					list[k] = byte(chance.Intn(256))
				} else {
					list[k] = ",)](a 1"[chance.Intn(7)]
				}
			}
			texts[i] = string(list)
		}
		for _, at := range append(farPlaces(), chance.Intn(12)) {
			isWhereByWord(t, texts[0], texts[1], at)
		}
	}
}

func TestPlacesAreNewMemory(t *testing.T) {
	source := "f([1,], 2,) // n"
	want := placesByWord(source)
	first, second := impl.PlacesOf(source), impl.PlacesOf(source)
	for i := range first {
		first[i] = -7
	}
	if !slices.Equal(second, want) {
		t.Errorf("an answer is %v behind the change of another one", second)
	}
	placesAre(t, source, want...)
	wentIs(t, source, source, 4, 3)
}

func TestSignAtLeavesTheList(t *testing.T) {
	list := withRoom(isRead(t, "f(a,\n\n1,) // n"))
	whole := slices.Clone(list[:cap(list)])
	for at := -1; at < 20; at++ {
		signAtIs(t, list, at, signAtByWord(list, at))
		signAtIs(t, list[:3], at, signAtByWord(list[:3], at))
	}
	if !slices.Equal(list[:cap(list)], whole) {
		t.Errorf("the list is %v behind its calls; want %v", list[:cap(list)], whole)
	}
}

func TestWhereKeepsNothing(t *testing.T) {
	texts := []string{"", "a", "a b", "f(1,)", "f(1)", ",)", "$", pointSource, blanks(impl.MaxSource + 1)}
	asks := []func() string{}
	for _, a := range texts {
		list, _, _ := impl.SignsOf(a)
		for _, b := range texts {
			asks = append(asks, func() string {
				return fmt.Sprint(impl.PlacesOf(a), impl.SignAt(list, 2), impl.WentTo(a, b, 3), impl.WentTo(b, a, 100))
			})
		}
	}
	keepNothing(t, asks)
}
