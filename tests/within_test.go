package tests

import (
	"fmt"
	"math/rand"
	"slices"
	"strings"
	"testing"

	"loop.example/g00262/impl"
)

// triedNames are those of both models, by their bytes, and one that neither has behind them.
func triedNames(p, q []impl.PNode) []string {
	has := map[string]bool{}
	for _, n := range append(slices.Clone(p), q...) {
		has[n.Name] = true
	}
	var names []string
	for name := range has {
		if name != "" {
			names = append(names, name)
		}
	}
	slices.SortFunc(names, strings.Compare)
	other := "other"
	for has[other] {
		other += "_"
	}
	return append(names, other)
}

// searched goes word by word as the chapter does, by what FirstOf, LastOf and FollowOf tell; it answers how many states were found, too.
func searched(p, q []impl.PNode) (int64, []string, int) {
	models := [2][]impl.PNode{p, q}
	if impl.Nullable(p) && !impl.Nullable(q) {
		return impl.WnNo, nil, 0
	}
	type found struct {
		row   []string
		sides [2][]int64
	}
	names := triedNames(p, q)
	states := []found{{}}
	seen := map[string]bool{}
	for i := 0; i < len(states); i++ {
		for _, name := range names {
			var next found
			var end [2]bool
			for side, model := range models {
				next.sides[side], end[side] = stepFrom(model, states[i].sides[side], i == 0, name)
			}
			if len(next.sides[0]) == 0 {
				continue
			}
			next.row = append(slices.Clone(states[i].row), name)
			if end[0] && !end[1] {
				return impl.WnNo, next.row, len(states)
			}
			if key := fmt.Sprint(next.sides); !seen[key] {
				if len(states) == impl.MaxStates {
					return impl.WnMany, nil, len(states)
				}
				seen[key] = true
				states = append(states, next)
			}
		}
	}
	return impl.WnYes, nil, len(states)
}

func stepFrom(p []impl.PNode, here []int64, start bool, name string) ([]int64, bool) {
	var next []int64
	if start {
		next = impl.FirstOf(p)
	}
	for _, n := range here {
		next = append(next, impl.FollowOf(p, n)...)
	}
	slices.Sort(next)
	next = slices.DeleteFunc(slices.Compact(next), func(n int64) bool { return p[n].Kind == impl.PtElem && p[n].Name != name })
	end := slices.ContainsFunc(impl.LastOf(p), func(n int64) bool { return slices.Contains(next, n) })
	return next, end
}

func sameWithin(t *testing.T, p, q []impl.PNode) (int64, []string) {
	t.Helper()
	wantCode, wantRow, _ := searched(p, q)
	code, row := impl.Within(p, q)
	if code != wantCode || !slices.Equal(row, wantRow) {
		t.Fatalf("%s within %s is %d, %q, not %d, %q", impl.ModelText(p), impl.ModelText(q), code, row, wantCode, wantRow)
	}
	return code, row
}

func TestOneModelWithinAnother(t *testing.T) {
	for _, c := range []struct {
		p    string
		q    string
		code int64
		row  string
	}{
		{"()", "()", impl.WnYes, ""},
		{"()", "(a)", impl.WnNo, ""},
		{"()", "(a?)", impl.WnYes, ""},
		{"()", "(a|())", impl.WnYes, ""},
		{"(a)", "()", impl.WnNo, "a"},
		{"(a?)", "()", impl.WnNo, "a"},
		{"(a?)", "(a)", impl.WnNo, ""},
		{"(a*)", "(a+)", impl.WnNo, ""},
		{"(b*)", "(a+)", impl.WnNo, ""},
		{"(a+)", "(a*)", impl.WnYes, ""},
		{"(a)", "(a)", impl.WnYes, ""},
		{"(a)", "(b)", impl.WnNo, "a"},
		{"(b)", "(a)", impl.WnNo, "b"},
		{"(a|b)", "(b|a)", impl.WnYes, ""},
		{"(c|b|a)", "(d)", impl.WnNo, "a"},
		{"(c|b|a)", "(a)", impl.WnNo, "b"},
		{"(a,b)", "(a,b?)", impl.WnYes, ""},
		{"(a,b?)", "(a,b)", impl.WnNo, "a"},
		{"(a?,b)", "(a,b)", impl.WnNo, "b"},
		{"(a|b)*", "(a*,b*)", impl.WnNo, "b a"},
		{"(a*,b*)", "(a|b)*", impl.WnYes, ""},
		{"(a?,b?)*", "(a|b)*", impl.WnYes, ""},
		{"(a|b)*", "(a?,b?)*", impl.WnYes, ""},
		{"(a?,b?)", "(a|b)?", impl.WnNo, "a b"},
		{"(a,a)*", "(a,a,a)*", impl.WnNo, "a a"},
		{"(a,a,a)*", "(a,a)*", impl.WnNo, "a a a"},
		{"(a,a,a,a)*", "(a,a)*", impl.WnYes, ""},
		{"(a*)", "(a?,a?,a?)", impl.WnNo, "a a a a"},
		{"(a,(b|c))", "((a,b)|(a,c))", impl.WnYes, ""},
		{"((a,b)|(a,c))", "(a,(b|c))", impl.WnYes, ""},
		{"(a,(b|c|d))", "((a,b)|(a,d))", impl.WnNo, "a c"},
		{"((a|b)*,a,(a|b))", "((a|b)*,(a|b),a)", impl.WnNo, "a b"},
		{"((a|b)*,a)", "((a|b)+)", impl.WnYes, ""},
		{"((a|b)+)", "((a|b)*,a)", impl.WnNo, "b"},
		{"(a,(),b)", "(a,b)", impl.WnYes, ""},
		{"(a,b)", "(a,()*,b)", impl.WnYes, ""},
		{"(#)", "(a)", impl.WnNo, "other"},
		{"(a)", "(#)", impl.WnYes, ""},
		{"(#)", "(a|b)", impl.WnNo, "other"},
		{"(#)", "(a|#)", impl.WnYes, ""},
		{"(a|#)", "(#)", impl.WnYes, ""},
		{"(#)", "(#)", impl.WnYes, ""},
		{"(#)", "()", impl.WnNo, "other"},
		{"(#,#)", "(#)", impl.WnNo, "other other"},
		{"(#,#)", "(a,#)", impl.WnNo, "other a"},
		{"(#*)", "(#?)", impl.WnNo, "other other"},
		{"(#*)", "(a*)", impl.WnNo, "other"},
		{"(#*,b)", "(a|b)*", impl.WnNo, "other b"},
		{"(a,#)", "(a,a)", impl.WnNo, "a other"},
		{"(#,a)", "(b,a)", impl.WnNo, "a a"},
		{"(#)", "(other)", impl.WnNo, "other_"},
		{"(#)", "(other_)", impl.WnNo, "other"},
		{"(#)", "(other|other_)", impl.WnNo, "other__"},
		{"(#)", "(other|other__)", impl.WnNo, "other_"},
		{"(#,other)", "(other,other)", impl.WnNo, "other_ other"},
		{"(#|other_)", "(other|other_)", impl.WnNo, "other__"},
		{"(zz|#)", "(zz)", impl.WnNo, "other"},
		{"(#)", "(zz)", impl.WnNo, "other"},
		{"(any)", "(#)", impl.WnYes, ""},
		{"(B|a|_|Z)", "()", impl.WnNo, "B"},
		{"(a|_|Z)", "()", impl.WnNo, "Z"},
		{"(a|_)", "()", impl.WnNo, "_"},
		{"(ab|a.|a-|a0|aA)", "(x)", impl.WnNo, "a-"},
		{"(ab|aa|a)", "(a)", impl.WnNo, "aa"},
		{"((z,a)|(b,b,b)|(c,c))", "()", impl.WnNo, "c c"},
		{"((z,a)|(b,b,b)|(c,c,c))", "()", impl.WnNo, "z a"},
	} {
		code, row := impl.Within(readPt(t, c.p), readPt(t, c.q))
		if code != c.code || !slices.Equal(row, strings.Fields(c.row)) {
			t.Errorf("%s within %s is %d, %q", c.p, c.q, code, row)
		}
		sameWithin(t, readPt(t, c.p), readPt(t, c.q))
	}
}

func TestSameModels(t *testing.T) {
	for _, c := range []struct {
		p    string
		q    string
		want int64
	}{
		{"()", "()*", impl.WnYes},
		{"(a,b)", "((a,b))", impl.WnYes},
		{"(a|b)", "(b|a)", impl.WnYes},
		{"(a*)", "(a+)?", impl.WnYes},
		{"(a+)", "(a,a*)", impl.WnYes},
		{"(a+)", "(a*,a)", impl.WnYes},
		{"(a|b)*", "(a*,b*)*", impl.WnYes},
		{"(a,(b|c))", "((a,b)|(a,c))", impl.WnYes},
		{"(#)", "(#|a)", impl.WnYes},
		{"(a,(),b)", "(a,b)", impl.WnYes},
		{"(a)", "(b)", impl.WnNo},
		{"(a+)", "(a*)", impl.WnNo},
		{"(a*)", "(a+)", impl.WnNo},
		{"(a)", "(#)", impl.WnNo},
		{"(#)", "(a)", impl.WnNo},
		{"(a,b)", "(b,a)", impl.WnNo},
		{"()", "(a?)", impl.WnNo},
	} {
		if got := impl.SameModel(readPt(t, c.p), readPt(t, c.q)); got != c.want {
			t.Errorf("%s and %s: %d", c.p, c.q, got)
		}
	}
}

func TestWithinWrongModels(t *testing.T) {
	right := [][]impl.PNode{readPt(t, "(a)"), readPt(t, "()"), readPt(t, "(#*)")}
	for what, wrong := range wrongPt() {
		for _, p := range append(right, wrong) {
			for _, pair := range [][2][]impl.PNode{{p, wrong}, {wrong, p}} {
				if code, row := impl.Within(pair[0], pair[1]); code != impl.WnWrong || len(row) != 0 {
					t.Errorf("%s: %d, %q", what, code, row)
				}
				if code := impl.SameModel(pair[0], pair[1]); code != impl.WnWrong {
					t.Errorf("%s: the same is %d", what, code)
				}
			}
		}
	}
	for what, wrong := range strayPt() {
		if code, row := impl.Within(wrong, right[0]); code != impl.WnWrong || len(row) != 0 {
			t.Errorf("%s: %d, %q", what, code, row)
		}
		if code, row := impl.Within(right[0], wrong); code != impl.WnWrong || len(row) != 0 {
			t.Errorf("%s, the other one: %d, %q", what, code, row)
		}
	}
}

// Names other, other_ .. up to the longest one that is a name.
func TestOtherNames(t *testing.T) {
	var others [][]impl.PNode
	for i := range impl.MaxName - 4 {
		name := "other" + strings.Repeat("_", i)
		others = append(others, ptElem(name, 0))
		q := ptSeq(0, others[0])
		if i > 0 {
			q = ptChoice(0, others...)
		}
		code, row := impl.Within(readPt(t, "(#)"), q)
		if code != impl.WnNo || !slices.Equal(row, []string{name + "_"}) {
			t.Errorf("%d others: %d, %q", i+1, code, row)
		}
		if !impl.Accepts(readPt(t, "(#)"), row) || impl.Accepts(q, row) {
			t.Errorf("%d others: %q is not right", i+1, row)
		}
		// The names of p count as those of q do.
		if code, row := impl.Within(ptChoice(0, append(others[:i:i], ptAny(0), others[i])...), ptChoice(0, append(others[:i:i], ptSeq(0), others[i])...)); code != impl.WnNo || !slices.Equal(row, []string{name + "_"}) {
			t.Errorf("%d others in both: %d, %q", i+1, code, row)
		}
	}
}

// ring takes rows of a, of which the number goes into n.
func ring(n int, occur int64) []impl.PNode {
	return ptSeq(occur, ptTimes(n, ptElem("a", 0))...)
}

// ringOrAll takes all rows of a, and has n states.
func ringOrAll(n int) []impl.PNode {
	return ptChoice(0, ring(n, impl.OcStar), ptElem("a", impl.OcStar))
}

// allButRing takes rows of a, but those of which the number goes into n.
func allButRing(n int) []impl.PNode {
	kids := append([][]impl.PNode{ring(n, impl.OcStar), ptElem("a", 0)}, ptTimes(n-2, ptElem("a", impl.OcMaybe))...)
	return ptSeq(0, kids...)
}

func TestManyStates(t *testing.T) {
	for _, c := range []struct {
		what   string
		p      []impl.PNode
		q      []impl.PNode
		code   int64
		long   int
		states int
	}{
		{"few", ring(2, impl.OcStar), ringOrAll(3), impl.WnYes, 0, 7},
		{"396 and the first", ring(36, impl.OcStar), ringOrAll(11), impl.WnYes, 0, 397},
		{"399 and the first", ring(19, impl.OcStar), ringOrAll(21), impl.WnYes, 0, 400},
		{"399 and the first, turned round", ring(21, impl.OcStar), ringOrAll(19), impl.WnYes, 0, 400},
		{"400 and the first", ring(16, impl.OcStar), ringOrAll(25), impl.WnMany, 0, 400},
		{"400 and the first, turned round", ring(25, impl.OcStar), ringOrAll(16), impl.WnMany, 0, 400},
		{"420 and the first", ring(35, impl.OcStar), ringOrAll(12), impl.WnMany, 0, 400},
		{"very many", ring(37, impl.OcStar), ringOrAll(36), impl.WnMany, 0, 400},
		{"a row of 399 names", ring(21, impl.OcPlus), allButRing(19), impl.WnNo, 399, 399},
		{"a row of 400 names, behind the last state", ring(25, impl.OcPlus), allButRing(16), impl.WnNo, 400, 400},
		{"a row of 403 names would be told", ring(31, impl.OcPlus), allButRing(13), impl.WnMany, 0, 400},
	} {
		code, row := impl.Within(c.p, c.q)
		if code != c.code || !slices.Equal(row, slices.Repeat([]string{"a"}, c.long)) {
			t.Errorf("%s: %d, %d names", c.what, code, len(row))
		}
		_, _, states := searched(c.p, c.q)
		if states != c.states {
			t.Errorf("%s: %d states", c.what, states)
		}
		sameWithin(t, c.p, c.q)
	}
	if got := impl.SameModel(ring(1, impl.OcStar), ringOrAll(25)); got != impl.WnYes {
		t.Errorf("the same: %d", got)
	}
	if got := impl.SameModel(ring(16, impl.OcStar), ringOrAll(25)); got != impl.WnMany {
		t.Errorf("too many to tell: %d", got)
	}
	if got := impl.SameModel(ringOrAll(25), ring(16, impl.OcStar)); got != impl.WnNo {
		t.Errorf("one lies within the other: %d", got)
	}
}

// behindA takes what has an a at the n-th place from behind: sets of positions of all kinds are states.
func behindA(n int) []impl.PNode {
	a, b := ptElem("a", 0), ptElem("b", 0)
	kids := append([][]impl.PNode{ptChoice(impl.OcStar, a, b), a}, ptTimes(n-1, ptChoice(0, a, b))...)
	return ptSeq(0, kids...)
}

func TestManySetsOfPositions(t *testing.T) {
	all := ptChoice(impl.OcStar, ptElem("b", 0), ptElem("a", 0))
	for n := 2; n <= 12; n++ {
		p, less := behindA(n), behindA(n-1)
		// A state for each row of n names, and that of no names.
		want := int64(impl.WnYes)
		if 1<<n+1 > impl.MaxStates {
			want = impl.WnMany
		}
		if code, row := sameWithin(t, p, p); code != want || len(row) != 0 {
			t.Errorf("%d within itself: %d, %q", n, code, row)
		}
		for _, q := range [][]impl.PNode{all, less} {
			sameWithin(t, p, q)
			sameWithin(t, q, p)
		}
	}
}

// Where p has no position any more nothing is found, whatever q has there.
func TestWherePEndsNothingIsFound(t *testing.T) {
	for text, want := range map[string]int64{"(a)": impl.WnYes, "(a?,b)": impl.WnNo, "(a,b)": impl.WnNo, "(a|(a,a,b,a,b,b,a,b,b,a))": impl.WnYes} {
		p, q := readPt(t, text), ptChoice(0, ptElem("a", 0), behindA(9))
		if code, _ := sameWithin(t, p, q); code != want {
			t.Errorf("%s: %d", text, code)
		}
		if code, _ := impl.Within(q, p); code != impl.WnNo {
			t.Errorf("%s, turned round: %d", text, code)
		}
	}
}

// A model lies within itself, and within those that take just the same rows.
func TestModelsLieWithinThemselves(t *testing.T) {
	m := maker{rand.New(rand.NewSource(91))}
	for range 1500 {
		p := m.model(1+m.Intn(3), "a", "b", "c")
		for _, q := range [][]impl.PNode{p, ptSeq(0, p), ptSeq(0, p, ptSeq(0)), ptChoice(0, p, p)} {
			if !impl.ParticleOk(q) {
				continue
			}
			if code, _ := sameWithin(t, p, q); code != impl.WnYes && code != impl.WnMany {
				t.Fatalf("%s within %s is %d", impl.ModelText(p), impl.ModelText(q), code)
			}
			if code := impl.SameModel(p, q); code != impl.WnYes && code != impl.WnMany {
				t.Fatalf("%s and %s: %d", impl.ModelText(p), impl.ModelText(q), code)
			}
		}
	}
}

// firstBetween tries row by row, the shorter ones ahead.
func firstBetween(p, q []impl.PNode, most int) ([]string, bool) {
	var first []string
	found := false
	eachRow(most, triedNames(p, q), func(row []string) bool {
		found = takesRow(p, row) && !takesRow(q, row)
		first = row
		return !found
	})
	return first, found
}

func TestWhatIsToldIsTheFirstRow(t *testing.T) {
	m := maker{rand.New(rand.NewSource(92))}
	codes := map[int64]int{}
	long := 0
	for range 3000 {
		p, q := m.model(1+m.Intn(3), "a", "b", "other"), m.model(1+m.Intn(3), "a", "b", "other")
		if m.Intn(3) == 0 {
			q = ptChoice(allOccurs[m.Intn(4)], q, p)
		}
		if !impl.ParticleOk(q) {
			continue
		}
		code, row := sameWithin(t, p, q)
		codes[code]++
		first, found := firstBetween(p, q, 4)
		if found && (code != impl.WnNo || !slices.Equal(row, first)) {
			t.Fatalf("%s within %s is %d, %q, not %q", impl.ModelText(p), impl.ModelText(q), code, row, first)
		}
		if code == impl.WnNo && (!found && len(row) <= 4 || !impl.Accepts(p, row) || impl.Accepts(q, row)) {
			t.Fatalf("%s within %s: %q is told", impl.ModelText(p), impl.ModelText(q), row)
		}
		if len(row) > 2 {
			long++
		}
		want := code
		if code == impl.WnYes {
			want, _ = impl.Within(q, p)
		}
		if got := impl.SameModel(p, q); got != want {
			t.Fatalf("%s and %s: %d, not %d", impl.ModelText(p), impl.ModelText(q), got, want)
		}
	}
	if codes[impl.WnYes] < 500 || codes[impl.WnNo] < 500 || long < 50 {
		t.Errorf("codes %v, %d long rows", codes, long)
	}
}

func TestEachSmallModelWithinOthers(t *testing.T) {
	others := [][]impl.PNode{readPt(t, "(a*)"), readPt(t, "(a?,b?)"), readPt(t, "(a,b)*"), readPt(t, "(#+)"), readPt(t, "()"), readPt(t, "((a|b),#?)")}
	i := 0
	eachSmallModel(func(p []impl.PNode) {
		i++
		if i%7 != 0 {
			return
		}
		q := others[i/7%len(others)]
		for _, pair := range [][2][]impl.PNode{{p, q}, {q, p}} {
			code, row := sameWithin(t, pair[0], pair[1])
			first, found := firstBetween(pair[0], pair[1], 3)
			if found != (code == impl.WnNo && len(row) <= 3) || found && !slices.Equal(row, first) {
				t.Fatalf("%s within %s is %d, %q, not %q", impl.ModelText(pair[0]), impl.ModelText(pair[1]), code, row, first)
			}
		}
	})
}

func TestWithinLeavesItsArguments(t *testing.T) {
	m := maker{rand.New(rand.NewSource(93))}
	for range 300 {
		p, q := sparePt(m.model(2, "a", "b")), sparePt(m.model(2, "a", "b"))
		keptP, keptQ := clonePt(p), clonePt(q)
		code, row := impl.Within(p, q)
		kept := slices.Clone(row)
		same := impl.SameModel(p, q)
		for i := range row[:cap(row)] {
			row[:cap(row)][i] = "changed"
		}
		if again, row := impl.Within(p, q); again != code || !slices.Equal(row, kept) || impl.SameModel(p, q) != same {
			t.Fatalf("%s within %s is told in two ways", impl.ModelText(p), impl.ModelText(q))
		}
		if !sparedPt(p, keptP) || !sparedPt(q, keptQ) {
			t.Fatalf("%s or %s was changed", impl.ModelText(keptP), impl.ModelText(keptQ))
		}
	}
}
