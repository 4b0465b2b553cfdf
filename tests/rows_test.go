package tests

import (
	"math/rand"
	"slices"
	"strings"
	"testing"

	"loop.example/g00262/impl"
)

// rowEnds tells where a node can end that begins at one of the places of from: a bit for each place of a row of up to 60 names.
func rowEnds(p []impl.PNode, n int64, row []string, from uint64) uint64 {
	once := func(from uint64) uint64 { return onceEnds(p, p[n], row, from) }
	switch p[n].Occur {
	case impl.OcMaybe:
		return from | once(from)
	case impl.OcPlus:
		from = once(from)
	case impl.OcOne:
		return once(from)
	}
	for last := ^from; last != from; {
		last = from
		from |= once(from)
	}
	return from
}

func onceEnds(p []impl.PNode, node impl.PNode, row []string, from uint64) uint64 {
	to := uint64(0)
	switch node.Kind {
	case impl.PtSeq:
		for _, kid := range node.Kids {
			from = rowEnds(p, kid, row, from)
		}
		return from
	case impl.PtChoice:
		for _, kid := range node.Kids {
			to |= rowEnds(p, kid, row, from)
		}
		return to
	}
	for i, name := range row {
		if from>>i&1 == 1 && (node.Kind == impl.PtAny || node.Name == name) {
			to |= 1 << (i + 1)
		}
	}
	return to
}

func takesRow(p []impl.PNode, row []string) bool {
	return rowEnds(p, int64(len(p)-1), row, 1)>>len(row)&1 == 1
}

// eachRow goes through all rows of up to so many names, the shorter ones ahead, then by the order of the names.
func eachRow(most int, names []string, look func(row []string) bool) {
	rows := [][]string{nil}
	for range most + 1 {
		var longer [][]string
		for _, row := range rows {
			if !look(row) {
				return
			}
			for _, name := range names {
				longer = append(longer, append(slices.Clone(row), name))
			}
		}
		rows = longer
	}
}

// rowOf has a name for each letter.
func rowOf(letters string) []string {
	var row []string
	for _, r := range letters {
		row = append(row, string(r))
	}
	return row
}

// A net has two knots for each node, where it is entered and left, and lines between them that take no name.
type net struct {
	p     []impl.PNode
	lines [][]int
}

func netOf(p []impl.PNode) net {
	w := net{p: p, lines: make([][]int, 4*len(p))}
	line := func(from, to int) { w.lines[from] = append(w.lines[from], to) }
	for n, node := range p {
		in, begin, end, out := 4*n, 4*n+1, 4*n+2, 4*n+3
		line(in, begin)
		line(end, out)
		if node.Occur == impl.OcMaybe || node.Occur == impl.OcStar {
			line(in, out)
		}
		if node.Occur == impl.OcStar || node.Occur == impl.OcPlus {
			line(end, begin)
		}
		at := begin
		for _, kid := range node.Kids {
			line(at, int(4*kid))
			if node.Kind == impl.PtSeq {
				at = int(4*kid + 3)
			} else {
				line(int(4*kid+3), end)
			}
		}
		if node.Kind == impl.PtSeq {
			line(at, end)
		}
	}
	return w
}

// reached answers the positions to which lines lead from a knot, and whether they lead out of the whole.
func (w net) reached(from int) ([]int64, bool) {
	seen := map[int]bool{from: true}
	work := []int{from}
	var list []int64
	for i := 0; i < len(work); i++ {
		for _, to := range w.lines[work[i]] {
			if !seen[to] {
				seen[to] = true
				work = append(work, to)
			}
		}
	}
	for n, node := range w.p {
		if seen[4*n+1] && (node.Kind == impl.PtElem || node.Kind == impl.PtAny) {
			list = append(list, int64(n))
		}
	}
	return list, seen[4*len(w.p)-1]
}

// roads is what a net tells of the positions.
type roads struct {
	empty  bool
	first  []int64
	last   []int64
	follow map[int64][]int64
	clear  bool
}

func roadsOf(p []impl.PNode) roads {
	w := netOf(p)
	r := roads{follow: map[int64][]int64{}}
	r.first, r.empty = w.reached(4 * (len(p) - 1))
	r.clear = unlikeNames(p, r.first)
	for n, node := range p {
		if node.Kind == impl.PtSeq || node.Kind == impl.PtChoice {
			continue
		}
		next, out := w.reached(4*n + 2)
		r.follow[int64(n)] = next
		r.clear = r.clear && unlikeNames(p, next)
		if out {
			r.last = append(r.last, int64(n))
		}
	}
	return r
}

func unlikeNames(p []impl.PNode, list []int64) bool {
	names := map[string]bool{}
	for _, n := range list {
		names[p[n].Name] = true // of PtAny the empty one
	}
	return len(names) == len(list) && (len(list) < 2 || !names[""])
}

func sameRoads(t *testing.T, p []impl.PNode) {
	t.Helper()
	want, text := roadsOf(p), impl.ModelText(p)
	if got := impl.Nullable(p); got != want.empty {
		t.Fatalf("%s: takes no names is %v", text, got)
	}
	if got := impl.FirstOf(p); !slices.Equal(got, want.first) {
		t.Fatalf("%s begins at %v, not %v", text, got, want.first)
	}
	if got := impl.LastOf(p); !slices.Equal(got, want.last) {
		t.Fatalf("%s ends at %v, not %v", text, got, want.last)
	}
	for n := range int64(len(p) + 1) {
		if got := impl.FollowOf(p, n); !slices.Equal(got, want.follow[n]) {
			t.Fatalf("%s: %v follow %d, not %v", text, got, n, want.follow[n])
		}
	}
	if got := impl.Clear(p); got != want.clear {
		t.Fatalf("%s: clear is %v", text, got)
	}
}

// ledThrough goes by the positions that are told.
func ledThrough(p []impl.PNode, row []string) bool {
	if len(row) == 0 {
		return impl.Nullable(p)
	}
	next, here := impl.FirstOf(p), []int64(nil)
	for _, name := range row {
		here = nil
		for _, n := range next {
			if p[n].Kind == impl.PtAny || p[n].Name == name {
				here = append(here, n)
			}
		}
		next = nil
		for _, n := range here {
			next = append(next, impl.FollowOf(p, n)...)
		}
		slices.Sort(next)
		next = slices.Compact(next)
	}
	last := impl.LastOf(p)
	return slices.ContainsFunc(here, func(n int64) bool { return slices.Contains(last, n) })
}

// sameRow holds Accepts and Attribute against what the model says.
func sameRow(t *testing.T, p []impl.PNode, row []string) bool {
	t.Helper()
	want, text := takesRow(p, row), impl.ModelText(p)
	if got := impl.Accepts(p, row); got != want {
		t.Fatalf("%s: takes %q is %v", text, row, got)
	}
	list, ok := impl.Attribute(p, row)
	if ok != (want && impl.Clear(p)) || !ok && len(list) != 0 {
		t.Fatalf("%s: %q has %v, %v", text, row, list, ok)
	}
	if !ok {
		return want
	}
	next := impl.FirstOf(p)
	if len(list) != len(row) {
		t.Fatalf("%s: %q has %v", text, row, list)
	}
	for i, n := range list {
		if !slices.Contains(next, n) || p[n].Kind != impl.PtAny && p[n].Name != row[i] {
			t.Fatalf("%s: %q has %v", text, row, list)
		}
		next = impl.FollowOf(p, n)
	}
	if len(list) > 0 && !slices.Contains(impl.LastOf(p), list[len(list)-1]) {
		t.Fatalf("%s: %q ends at %v", text, row, list)
	}
	return want
}

func TestWhatModelsTake(t *testing.T) {
	for _, c := range []struct {
		text string
		yes  string
		no   string
	}{
		{"()", "-", "a"},
		{"()?", "-", "a"},
		{"()*", "-", "a"},
		{"()+", "-", "a"},
		{"(a)", "a", "- b aa ab"},
		{"(a)?", "- a", "b aa"},
		{"(a)*", "- a aa aaaaa", "b ab ba"},
		{"(a)+", "a aa aaaaa", "- b ab ba"},
		{"(#)", "a b z", "- aa"},
		{"(#?)", "- a b", "ab"},
		{"(#*)", "- a ab zzzz", ""},
		{"(#+)", "a ab zzzz", "-"},
		{"(a|b)", "a b", "- ab aa c"},
		{"(a|b)?", "- a b", "ab aa c"},
		{"(a|b)*", "- a b abba", "c abc"},
		{"(a|b)+", "a b abba", "- c abc"},
		{"(a,b)", "ab", "- a b ba abab"},
		{"(a,b)*", "- ab ababab", "a b aba ba"},
		{"(a,b)+", "ab ababab", "- a aba"},
		{"(a?,b?)", "- a b ab", "ba aa bb"},
		{"(a?,b?)*", "- a b ab ba aab bba aa", "c"},
		{"(a?,b?)+", "- a b ab ba aab bba aa", "c"},
		{"(a?,b)*", "- b ab bab abab bb", "a ba aab"},
		{"(a,b?)*", "- a ab aba aab aa", "b ba abb"},
		{"(a?,b,c?)", "b ab bc abc", "- a c ac"},
		{"(a?,b?,c?)", "- a b c ab ac bc abc", "ba ca cb aa"},
		{"(a*,b*)", "- a b aab abb", "ba aba"},
		{"(a*,b*)*", "- ba aba bbaab", "c"},
		{"(a,(),b)", "ab", "- a b"},
		{"(a,()?,b)", "ab", "- a b"},
		{"(a,()*,b)+", "ab abab", "- a b"},
		{"(a|())", "- a", "aa"},
		{"(a|()+)", "- a", "aa"},
		{"(()|a+)", "- a aa", "b"},
		{"(a?|b)", "- a b", "ab"},
		{"(a?|b)+", "- a b ab ba aa", "c"},
		{"((a,b)|(a,c))", "ab ac", "- a abc acb"},
		{"((a|b),(a|c))", "aa ac ba bc", "- a ab cb ca"},
		{"((a,b)+,c)+", "abc ababc abcabc", "- c ab abcc"},
		{"((a|b)*,a)", "a ba aa aba", "- b ab"},
		{"(a,#*,b)", "ab azb abb aab", "- a b az ba"},
		{"(a*,#)", "a z aa az", "- za aza"},
		{"((a?)*)+", "- a aaa", "b"},
		{"((a+)?,b)*", "- b ab aab abb", "a aba"},
		{"((a*)+|(b+)?)", "- a aa b bb", "ab ba"},
		{"(a,(b|c)*,d?)", "a ab abcbd ad", "- d adb abdc"},
	} {
		p := readPt(t, c.text)
		for _, s := range strings.Fields(c.yes) {
			if !impl.Accepts(p, rowOf(strings.Trim(s, "-"))) {
				t.Errorf("%s does not take %q", c.text, s)
			}
		}
		for _, s := range strings.Fields(c.no) {
			if impl.Accepts(p, rowOf(strings.Trim(s, "-"))) {
				t.Errorf("%s takes %q", c.text, s)
			}
		}
		if got := impl.Nullable(p); got != slices.Contains(strings.Fields(c.yes), "-") {
			t.Errorf("%s: takes no names is %v", c.text, got)
		}
	}
}

func TestPositions(t *testing.T) {
	for _, c := range []struct {
		text   string
		first  []int64
		last   []int64
		follow map[int64][]int64
	}{
		{"()*", nil, nil, nil},
		{"(a)", []int64{0}, []int64{0}, nil},
		{"(a)+", []int64{0}, []int64{0}, map[int64][]int64{0: {0}}},
		{"(a,b)", []int64{0}, []int64{1}, map[int64][]int64{0: {1}}},
		{"(a,b)*", []int64{0}, []int64{1}, map[int64][]int64{0: {1}, 1: {0}}},
		{"(a?,b)", []int64{0, 1}, []int64{1}, map[int64][]int64{0: {1}}},
		{"(a,b?)", []int64{0}, []int64{0, 1}, map[int64][]int64{0: {1}}},
		{"(a?,b?,c?)", []int64{0, 1, 2}, []int64{0, 1, 2}, map[int64][]int64{0: {1, 2}, 1: {2}}},
		{"(a?,b?,c?)+", []int64{0, 1, 2}, []int64{0, 1, 2}, map[int64][]int64{0: {0, 1, 2}, 1: {0, 1, 2}, 2: {0, 1, 2}}},
		{"(a,b?,c?,d)", []int64{0}, []int64{3}, map[int64][]int64{0: {1, 2, 3}, 1: {2, 3}, 2: {3}}},
		{"(a,b?,c?,d)*", []int64{0}, []int64{3}, map[int64][]int64{0: {1, 2, 3}, 1: {2, 3}, 2: {3}, 3: {0}}},
		{"(a,(),b)", []int64{0}, []int64{2}, map[int64][]int64{0: {2}}},
		{"((),a,())", []int64{1}, []int64{1}, nil},
		{"(a|b)", []int64{0, 1}, []int64{0, 1}, nil},
		{"(a|b)*", []int64{0, 1}, []int64{0, 1}, map[int64][]int64{0: {0, 1}, 1: {0, 1}}},
		{"(#,(a|#)?,b)", []int64{0}, []int64{4}, map[int64][]int64{0: {1, 2, 4}, 1: {4}, 2: {4}}},
		{"((a,b?)*,c)", []int64{0, 3}, []int64{3}, map[int64][]int64{0: {0, 1, 3}, 1: {0, 3}}},
		{"((a+,b)?,(c|d)*)", []int64{0, 3, 4}, []int64{1, 3, 4}, map[int64][]int64{0: {0, 1}, 1: {3, 4}, 3: {3, 4}, 4: {3, 4}}},
		{"((a|(b,c)+),d*)", []int64{0, 1}, []int64{0, 2, 5}, map[int64][]int64{0: {5}, 1: {2}, 2: {1, 5}, 5: {5}}},
	} {
		p := readPt(t, c.text)
		if got := impl.FirstOf(p); !slices.Equal(got, c.first) {
			t.Errorf("%s begins at %v", c.text, got)
		}
		if got := impl.LastOf(p); !slices.Equal(got, c.last) {
			t.Errorf("%s ends at %v", c.text, got)
		}
		for _, n := range append([]int64{-1, 0, 1, 2, 3, 4, 5, 6, 7, 39, 40, 41, 63, 64, 65}, farOff...) {
			if got := impl.FollowOf(p, n); !slices.Equal(got, c.follow[n]) {
				t.Errorf("%s: %v follow %d", c.text, got, n)
			}
		}
		sameRoads(t, p)
	}
}

func TestClearModels(t *testing.T) {
	for text, want := range map[string]bool{
		"()": true, "()*": true, "(a)": true, "(#)": true, "(#*)": true, "(#)+": true, "(a,a)": true, "(#,#)": true, "(a,#)": true,
		"(a|b)": true, "(a|a)": false, "(a|#)": false, "(#|a)": false, "(#|#)": false, "(a|b|a)": false, "(a|b|c)*": true,
		"(a?,a)": false, "(a?,b)": true, "(a?,#)": false, "(#?,a)": false, "(#?,#)": false, "(a,b?,b)": false, "(a,b?,c)": true,
		"(a*,a)": false, "(a+,a)": false, "(a+,b)": true, "(a*,b?,a)": false, "(a+)+": true, "(a*)*": true, "((a?)*)+": true,
		"(a,b?)*": true, "(a,a?)*": false, "(a,b?,a)*": true, "(a,b,a?)*": false, "(a?,b?)*": true, "(b,a?,b?)+": false,
		"((a,b)|(a,c))": false, "(a,(b|c))": true, "((a,b)*,a)": false, "((a,b)*,c)": true, "((a,#)*,b)": true, "((a,#)*,a)": false, "((a,#)*,#)": false, "((#,a)*,b)": false,
		"(a,#?)": true, "(a,#?)*": false, "(a,#*)": true, "((a,#?)|b)": true, "((a|b),(a|b))": true, "((a|b)?,(a|c))": false, "((a|b)+,(c|d)*)": true,
		"(A|a)": true, "(a|aa)": true, "(any|other)": true, "(a,(),a)": true, "(a?,(),a)": false, "((a)|(b))": true, "((a)|(b|(a)))": false,
	} {
		p := readPt(t, text)
		if got := impl.Clear(p); got != want {
			t.Errorf("%s: clear is %v", text, got)
		}
		sameRoads(t, p)
	}
}

func TestAttribute(t *testing.T) {
	for _, c := range []struct {
		text string
		row  string
		want []int64
		ok   bool
	}{
		{"()", "", nil, true},
		{"()", "a", nil, false},
		{"(a)", "", nil, false},
		{"(a)", "a", []int64{0}, true},
		{"(a)*", "", nil, true},
		{"(a)*", "aaa", []int64{0, 0, 0}, true},
		{"(a,b,a)", "aba", []int64{0, 1, 2}, true},
		{"(a,b,a)", "ab", nil, false},
		{"(a,b,a)", "abab", nil, false},
		{"(a,b,a)*", "abaaba", []int64{0, 1, 2, 0, 1, 2}, true},
		{"(a,(),b)", "ab", []int64{0, 2}, true},
		{"(#,a)", "aa", []int64{0, 1}, true},
		{"(#*)", "xyz", []int64{0, 0, 0}, true},
		{"(a,(b|c)*,d?)", "acbd", []int64{0, 2, 1, 4}, true},
		{"(a,(b|c)*,d?)", "acdb", nil, false},
		{"(a|a)", "a", nil, false},
		{"(a?,a)", "a", nil, false},
		{"(a?,a)", "aa", nil, false},
		{"(a|#)", "b", nil, false},
		{"(a?,b?,c?)*", "cab", []int64{2, 0, 1}, true},
	} {
		list, ok := impl.Attribute(readPt(t, c.text), rowOf(c.row))
		if ok != c.ok || !slices.Equal(list, c.want) {
			t.Errorf("%s: %q has %v, %v", c.text, c.row, list, ok)
		}
	}
}

func TestSample(t *testing.T) {
	for text, want := range map[string]string{
		"()": "", "()+": "", "(a)": "a", "(a)?": "", "(a)*": "", "(a)+": "a", "(a?)": "", "(a*)": "", "(a+)": "a",
		"(#)": "any", "(#?)": "", "(#*)": "", "(#+)": "any", "(#,a,#)": "any a any", "(any,#)": "any any",
		"(a,b)": "a b", "(a,b?,c)": "a c", "(a,b+,c)": "a b c", "(a,(b,c)+)": "a b c", "(a,(b,c)*)": "a",
		"(a|b)": "a", "(b|a)": "b", "(#|a)": "any", "(a|#)": "a", "(a|b)?": "", "(a|b?)": "", "(a|b*)": "", "(a|b+)": "a", "(a|())": "", "(a+|b)": "a",
		"((a,b)|c|d)": "c", "((a,b)|(c,d))": "a b", "((a,b,c)|(d,e)|(f,g))": "d e", "(c|(a,b)|d)": "c", "((a,b)|(c?,d))": "d", "((a,b)|(c,d?)|e)": "c",
		"((a,b)|(c|(d,e)))": "c", "((a|b),(c|d))": "a c", "((a|b)+,(c|d)+)+": "a c", "((a,b)+|(c,d,e)*)": "", "((a,b)|())+": "",
		"(" + strings.Repeat("a,", 38) + "a)": strings.Repeat("a ", 38) + "a",
	} {
		row, ok := impl.Sample(readPt(t, text))
		if !ok || !slices.Equal(row, strings.Fields(want)) {
			t.Errorf("%s has the sample %q, %v", text, row, ok)
		}
	}
}

func TestTurned(t *testing.T) {
	for text, want := range map[string]string{
		"()": "()", "()*": "()*", "(a)": "(a)", "(a,b)": "(b,a)", "(a|b)": "(a|b)", "(a,b,c)+": "(c,b,a)+", "(a?,b*,#+)": "(#+,b*,a?)",
		"(a,(b|c)*,d?)": "(d?,(b|c)*,a)", "((a,b),c)": "(c,(b,a))", "(a,(b,(c,d)?)*)": "(((d,c)?,b)*,a)", "((a,b)|(c,d,()))": "((b,a)|((),d,c))",
		"((a|(b,c)),(),d)": "(d,(),(a|(c,b)))", "(a|b|(c|d))": "(a|b|(c|d))",
	} {
		p := readPt(t, text)
		q, ok := impl.Turned(p)
		if got := impl.ModelText(q); !ok || got != want {
			t.Errorf("%s turned is %q, %v", text, got, ok)
		}
		if back, ok := impl.Turned(q); !ok || !samePt(back, p) {
			t.Errorf("%s turned twice is %q", text, impl.ModelText(back))
		}
	}
}

// eachSmallModel has each Kind with each Occur within each Kind with each Occur, alone and among others.
func eachSmallModel(look func(p []impl.PNode)) {
	var single, parts [][]impl.PNode
	for _, occur := range allOccurs {
		single = append(single, ptElem("a", occur), ptElem("b", occur), ptAny(occur), ptSeq(occur))
		for _, inner := range allOccurs {
			b := ptElem("b", inner)
			parts = append(parts, ptSeq(occur, b), ptSeq(occur, b, ptElem("a", impl.OcMaybe)), ptChoice(occur, b, ptSeq(0)))
		}
	}
	parts = append(parts, single...)
	for _, occur := range allOccurs {
		for _, one := range parts {
			look(ptSeq(occur, one))
			for _, other := range single {
				look(ptSeq(occur, one, other))
				look(ptSeq(occur, other, one))
				look(ptChoice(occur, one, other))
			}
		}
	}
}

func TestEachSmallModel(t *testing.T) {
	names := []string{"a", "b", "c"}
	eachSmallModel(func(p []impl.PNode) {
		sameRoads(t, p)
		turned, _ := impl.Turned(p)
		short, _ := impl.Sample(p)
		least := -1
		eachRow(3, names, func(row []string) bool {
			taken := sameRow(t, p, row)
			if taken && least < 0 {
				least = len(row)
			}
			back := slices.Clone(row)
			slices.Reverse(back)
			if impl.Accepts(turned, back) != taken {
				t.Fatalf("%s turned: %q", impl.ModelText(p), back)
			}
			return true
		})
		if least != len(short) || !takesRow(p, short) {
			t.Fatalf("%s has the sample %q", impl.ModelText(p), short)
		}
	})
}

// rowFor makes a row that a node takes, or one that is near to it.
func (m maker) rowFor(p []impl.PNode, n int64) []string {
	var row []string
	times := 1
	switch p[n].Occur {
	case impl.OcMaybe:
		times = m.Intn(2)
	case impl.OcStar:
		times = m.Intn(3)
	case impl.OcPlus:
		times = 1 + m.Intn(2)
	}
	for range times {
		switch p[n].Kind {
		case impl.PtElem:
			row = append(row, p[n].Name)
		case impl.PtAny:
			row = append(row, m.pick("a", "b", "c", "d", "p:a", "", "1"))
		case impl.PtSeq:
			for _, kid := range p[n].Kids {
				row = append(row, m.rowFor(p, kid)...)
			}
		case impl.PtChoice:
			row = append(row, m.rowFor(p, p[n].Kids[m.Intn(len(p[n].Kids))])...)
		}
	}
	return row
}

func (m maker) bentRow(row []string) []string {
	row = slices.Clone(row)
	at := m.Intn(len(row) + 1)
	if m.Intn(2) == 0 {
		return slices.Insert(row, at, m.pick("a", "b", "c", "d", "x", ""))
	}
	if at < len(row) {
		return slices.Delete(row, at, at+1)
	}
	return row
}

func TestRandomModels(t *testing.T) {
	m := maker{rand.New(rand.NewSource(84))}
	clear, taken, not := 0, 0, 0
	for range 4000 {
		p := m.model(1+m.Intn(4), "a", "b", "c", "d", "e", "f")
		sameRoads(t, p)
		if impl.Clear(p) {
			clear++
		}
		turned, ok := impl.Turned(p)
		if !ok || !slices.Equal(sortedNames(p), sortedNames(turned)) {
			t.Fatalf("%s turned is %v", impl.ModelText(p), turned)
		}
		sameRoads(t, turned)
		for range 6 {
			row := m.rowFor(p, int64(len(p)-1))
			if len(row) > 55 {
				continue
			}
			if !impl.Accepts(p, row) {
				t.Fatalf("%s does not take %q", impl.ModelText(p), row)
			}
			row = m.bentRow(row)
			got := sameRow(t, p, row)
			if ledThrough(p, row) != got {
				t.Fatalf("%s: positions lead through %q is %v", impl.ModelText(p), row, !got)
			}
			slices.Reverse(row)
			if impl.Accepts(turned, row) != got {
				t.Fatalf("%s turned: %q", impl.ModelText(p), row)
			}
			if got {
				taken++
			} else {
				not++
			}
		}
	}
	if clear < 500 || taken < 2000 || not < 2000 {
		t.Errorf("%d are clear, %d rows taken, %d not", clear, taken, not)
	}
}

func sortedNames(p []impl.PNode) []string {
	var names []string
	for _, n := range p {
		names = append(names, n.Name)
	}
	slices.Sort(names)
	return names
}

func TestSamplesAreTakenAndNoneIsShorter(t *testing.T) {
	m := maker{rand.New(rand.NewSource(85))}
	for range 1500 {
		p := m.model(1+m.Intn(4), "a", "b", "any")
		row, ok := impl.Sample(p)
		if !ok || !impl.Accepts(p, row) {
			t.Fatalf("%s does not take its sample %q", impl.ModelText(p), row)
		}
		eachRow(min(5, len(row)-1), []string{"a", "b", "any"}, func(shorter []string) bool {
			if len(shorter) < len(row) && takesRow(p, shorter) {
				t.Fatalf("%s has the sample %q, and takes %q", impl.ModelText(p), row, shorter)
			}
			return true
		})
	}
}

func TestRowsOfManyNames(t *testing.T) {
	for _, text := range []string{"(a*)", "(a)+", "(#)*", "(a?,b?)*", "((a,a)+)?", "(b|a)*"} {
		p := readPt(t, text)
		if !impl.Accepts(p, slices.Repeat([]string{"a"}, impl.MaxWord)) {
			t.Errorf("%s does not take 200 names", text)
		}
		for _, n := range []int{impl.MaxWord + 1, impl.MaxWord + 2, 10 * impl.MaxWord} {
			if impl.Accepts(p, slices.Repeat([]string{"a"}, n)) {
				t.Errorf("%s takes %d names", text, n)
			}
		}
	}
	p := readPt(t, "(a,b?)*")
	most := slices.Repeat([]string{"a", "b"}, impl.MaxWord/2)
	if list, ok := impl.Attribute(p, most); !ok || !slices.Equal(list, slices.Repeat([]int64{0, 1}, impl.MaxWord/2)) {
		t.Errorf("200 names have %v, %v", list, ok)
	}
	if list, ok := impl.Attribute(p, append(most, "a")); ok || len(list) != 0 {
		t.Errorf("201 names have %v", list)
	}
}

// What stands in a row need not be a name: any takes it, and no element does.
func TestRowsOfWhatIsNoName(t *testing.T) {
	for _, s := range []string{"", " ", "1", "p:a", "a ", "#", "(a)", "é", "\xff", strings.Repeat("n", 41), strings.Repeat("n", 30000)} {
		if !impl.Accepts(readPt(t, "(#)"), []string{s}) || !impl.Accepts(readPt(t, "(a,#*)"), []string{"a", s, s}) {
			t.Errorf("%.50q is not taken for any", s)
		}
		if list, ok := impl.Attribute(readPt(t, "(a,#)"), []string{"a", s}); !ok || !slices.Equal(list, []int64{0, 1}) {
			t.Errorf("%.50q has %v, %v", s, list, ok)
		}
		for _, text := range []string{"()", "()*", "(a)", "(a?)", "(a,())", "(a|())*"} {
			p := readPt(t, text)
			list, ok := impl.Attribute(p, []string{s})
			if impl.Accepts(p, []string{s}) || impl.Accepts(p, []string{"a", s}) || ok || len(list) != 0 {
				t.Errorf("%s takes %.50q", text, s)
			}
		}
	}
}

func TestModelsOfManyNodes(t *testing.T) {
	names := slices.Repeat([]string{"a"}, 39)
	for what, p := range map[string][]impl.PNode{
		"a row":             ptSeq(0, ptTimes(39, ptElem("a", 0))...),
		"a row of any":      ptSeq(0, ptTimes(39, ptAny(0))...),
		"an optional row":   ptSeq(0, ptTimes(39, ptElem("a", impl.OcMaybe))...),
		"an optional row *": ptSeq(impl.OcStar, ptTimes(39, ptElem("a", impl.OcMaybe))...),
		"stars":             ptSeq(impl.OcPlus, ptTimes(39, ptElem("a", impl.OcStar))...),
		"a choice":          ptChoice(impl.OcStar, ptTimes(39, ptElem("a", 0))...),
		"rows of none":      ptSeq(0, append(ptTimes(38, ptSeq(0)), ptElem("a", impl.OcStar))...),
	} {
		if len(p) != impl.MaxParts {
			t.Fatal(what, len(p))
		}
		sameRoads(t, p)
		if !sameRow(t, p, names) || sameRow(t, p, append(names[:39:39], "b")) {
			t.Errorf("%s: 39 names", what)
		}
		sameRow(t, p, names[1:])
		sameRow(t, p, append(names[:39:39], "a"))
		for _, n := range append([]int64{-1, 39, 40, 41, 63, 64}, farOff...) {
			if len(impl.FollowOf(p, n)) != 0 {
				t.Errorf("%s: something follows %d", what, n)
			}
		}
	}
	for _, occur := range allOccurs {
		p := ptElem("a", occur)
		for range mostAboveOne {
			p = ptSeq(occur, p)
		}
		sameRoads(t, p)
	}
}

// sparePt gives a model and its Kids room behind them, with marks there.
func sparePt(p []impl.PNode) []impl.PNode {
	out := append(clonePt(p), impl.PNode{Kind: 77})[:len(p)]
	for i := range out {
		out[i].Kids = append(out[i].Kids, 77)[:len(out[i].Kids)]
	}
	return out
}

func sparedPt(p, kept []impl.PNode) bool {
	for _, n := range p {
		if n.Kids[:len(n.Kids)+1][len(n.Kids)] != 77 {
			return false
		}
	}
	return samePt(p, kept) && p[:len(p)+1][len(p)].Kind == 77
}

func TestModelsAreLeftAsTheyAre(t *testing.T) {
	m := maker{rand.New(rand.NewSource(86))}
	for range 500 {
		p := sparePt(m.model(1+m.Intn(4), "a", "b", "c"))
		kept := clonePt(p)
		row := append(m.rowFor(p, int64(len(p)-1)), "behind")
		row = row[:len(row)-1]
		keptRow := slices.Clone(row)
		for range 2 {
			impl.ParticleOk(p)
			impl.ModelText(p)
			impl.Nullable(p)
			impl.Clear(p)
			impl.Accepts(p, row)
			impl.Attribute(p, row)
			impl.Sample(p)
			impl.FirstOf(p)
			impl.LastOf(p)
			impl.FollowOf(p, 0)
			impl.Turned(p)
		}
		if !sparedPt(p, kept) || !slices.Equal(row, keptRow) || row[:len(row)+1][len(row)] != "behind" {
			t.Fatalf("%s was changed", impl.ModelText(kept))
		}
	}
}

// wiped writes into all the room that a list has.
func wiped(list []int64) {
	for i := range list[:cap(list)] {
		list[:cap(list)][i] = -7
	}
}

func TestModelsShareNoMemory(t *testing.T) {
	p := readPt(t, "((a,b,c)?,(d|e)*,((f)),())")
	kept := clonePt(p)
	turned, _ := impl.Turned(p)
	for _, list := range [][]impl.PNode{turned, readPt(t, "((a,b,c)?,(d|e)*,((f)),())")} {
		want := clonePt(list)
		for i := range list {
			wiped(list[i].Kids)
			list[i].Kids, want[i].Kids = nil, nil
			if !samePt(list, want) {
				t.Fatalf("node %d shares memory", i)
			}
		}
	}
	for _, again := range []func() []int64{
		func() []int64 { return impl.FirstOf(p) },
		func() []int64 { return impl.LastOf(p) },
		func() []int64 { return impl.FollowOf(p, 2) },
		func() []int64 { list, _ := impl.Attribute(p, rowOf("abcdef")); return list },
	} {
		list := again()
		want := slices.Clone(list)
		wiped(list)
		if len(want) == 0 || !slices.Equal(again(), want) {
			t.Errorf("%v is kept", want)
		}
	}
	row, _ := impl.Sample(p)
	row[0] = "changed"
	if row, _ := impl.Sample(p); !slices.Equal(row, []string{"f"}) {
		t.Errorf("the sample %q is kept", row)
	}
	if !samePt(p, kept) {
		t.Error("the model was changed")
	}
}
