package tests

import (
	"math/rand"
	"regexp"
	"slices"
	"strconv"
	"strings"
	"testing"

	"loop.example/g00262/impl"
)

const mostAboveOne = 9

var allOccurs = []int64{impl.OcOne, impl.OcMaybe, impl.OcStar, impl.OcPlus}

func ptElem(name string, occur int64) []impl.PNode {
	return []impl.PNode{{Kind: impl.PtElem, Name: name, Occur: occur}}
}

func ptAny(occur int64) []impl.PNode {
	return []impl.PNode{{Kind: impl.PtAny, Occur: occur}}
}

// ptGroup lays the kids one behind the other, and a node that has them behind them.
func ptGroup(kind, occur int64, kids ...[]impl.PNode) []impl.PNode {
	var out []impl.PNode
	whole := impl.PNode{Kind: kind, Occur: occur}
	for _, kid := range kids {
		moved := int64(len(out))
		for _, n := range clonePt(kid) {
			for i := range n.Kids {
				n.Kids[i] += moved
			}
			out = append(out, n)
		}
		whole.Kids = append(whole.Kids, int64(len(out)-1))
	}
	return append(out, whole)
}

func ptSeq(occur int64, kids ...[]impl.PNode) []impl.PNode {
	return ptGroup(impl.PtSeq, occur, kids...)
}

func ptChoice(occur int64, kids ...[]impl.PNode) []impl.PNode {
	return ptGroup(impl.PtChoice, occur, kids...)
}

func clonePt(p []impl.PNode) []impl.PNode {
	out := slices.Clone(p)
	for i := range out {
		out[i].Kids = slices.Clone(out[i].Kids)
	}
	return out
}

func samePt(a, b []impl.PNode) bool {
	return slices.EqualFunc(a, b, func(x, y impl.PNode) bool {
		return x.Kind == y.Kind && x.Name == y.Name && x.Occur == y.Occur && slices.Equal(x.Kids, y.Kids)
	})
}

// ptTimes is n of a kind of kid.
func ptTimes(n int, kid []impl.PNode) [][]impl.PNode {
	return slices.Repeat([][]impl.PNode{kid}, n)
}

// ptDeep is an element within n rows.
func ptDeep(n int) []impl.PNode {
	p := ptElem("a", impl.OcOne)
	for range n {
		p = ptSeq(impl.OcOne, p)
	}
	return p
}

func readPt(t *testing.T, s string) []impl.PNode {
	t.Helper()
	p, ok := impl.ReadModel(s)
	if !ok {
		t.Fatalf("%q is refused", s)
	}
	return p
}

// rightPt has models by their texts.
func rightPt() map[string][]impl.PNode {
	a, b, c := ptElem("a", 0), ptElem("b", 0), ptElem("c", 0)
	right := map[string][]impl.PNode{
		"()":                                   ptSeq(0),
		"(a)":                                  ptSeq(0, a),
		"(#)":                                  ptSeq(0, ptAny(0)),
		"(a,b)":                                ptSeq(0, a, b),
		"(a,a)":                                ptSeq(0, a, a),
		"(a|b)":                                ptChoice(0, a, b),
		"(a|a)":                                ptChoice(0, a, a),
		"(#|#)":                                ptChoice(0, ptAny(0), ptAny(0)),
		"(a|b|c|#)":                            ptChoice(0, a, b, c, ptAny(0)),
		"((a))":                                ptSeq(0, ptSeq(0, a)),
		"((),())":                              ptSeq(0, ptSeq(0), ptSeq(0)),
		"(()|())":                              ptChoice(0, ptSeq(0), ptSeq(0)),
		"(a,(),b)":                             ptSeq(0, a, ptSeq(0), b),
		"((a,b),c)":                            ptSeq(0, ptSeq(0, a, b), c),
		"(a,(b,c))":                            ptSeq(0, a, ptSeq(0, b, c)),
		"((a|b)|c)":                            ptChoice(0, ptChoice(0, a, b), c),
		"(a|(b|c))":                            ptChoice(0, a, ptChoice(0, b, c)),
		"((a,b)|(b,c))":                        ptChoice(0, ptSeq(0, a, b), ptSeq(0, b, c)),
		"((a|b),(b|c))":                        ptSeq(0, ptChoice(0, a, b), ptChoice(0, b, c)),
		"(a,(b|c)*,d?)":                        ptSeq(0, a, ptChoice(impl.OcStar, b, c), ptElem("d", impl.OcMaybe)),
		"((a+)?,(#*|b?)+)*":                    ptSeq(impl.OcStar, ptSeq(impl.OcMaybe, ptElem("a", impl.OcPlus)), ptChoice(impl.OcPlus, ptAny(impl.OcStar), ptElem("b", impl.OcMaybe))),
		"(_.-9,A-z.0)":                         ptSeq(0, ptElem("_.-9", 0), ptElem("A-z.0", 0)),
		"(" + strings.Repeat("n", 40) + ")":    ptSeq(0, ptElem(strings.Repeat("n", 40), 0)),
		"(a" + strings.Repeat(",a", 38) + ")":  ptSeq(0, ptTimes(39, a)...),
		"(#" + strings.Repeat("|#", 38) + ")*": ptChoice(impl.OcStar, ptTimes(39, ptAny(0))...),
		strings.Repeat("(", 9) + "a" + strings.Repeat(")", 9):         ptDeep(9),
		strings.Repeat("(", 10) + strings.Repeat(")", 10):             ptNested(10),
		"(b," + strings.Repeat("(", 8) + "a" + strings.Repeat(")", 9): ptSeq(0, b, ptDeep(8)),
	}
	for i, occur := range allOccurs {
		sign := []string{"", "?", "*", "+"}[i]
		right["()"+sign] = ptSeq(occur)
		right["(a)"+sign] = ptSeq(occur, a)
		right["(a|b)"+sign] = ptChoice(occur, a, b)
		right["(a"+sign+")"] = ptSeq(0, ptElem("a", occur))
		right["(#"+sign+")"] = ptSeq(0, ptAny(occur))
		right["(()"+sign+",(a|b)"+sign+")"] = ptSeq(0, ptSeq(occur), ptChoice(occur, a, b))
	}
	return right
}

// ptNested is n rows one within the other, and nothing in the last one.
func ptNested(n int) []impl.PNode {
	p := ptSeq(0)
	for range n - 1 {
		p = ptSeq(0, p)
	}
	return p
}

func group(kind int64, kids ...int64) impl.PNode {
	return impl.PNode{Kind: kind, Kids: kids}
}

// wrongPt breaks one rule at a time.
func wrongPt() map[string][]impl.PNode {
	a, b := ptElem("a", 0), ptElem("b", 0)
	x, y, z := a[0], b[0], ptElem("c", 0)[0]
	const seq, choice = impl.PtSeq, impl.PtChoice
	return map[string][]impl.PNode{
		"none":                        nil,
		"no nodes":                    {},
		"forty-one nodes":             ptSeq(0, ptTimes(40, a)...),
		"forty-one nodes, a choice":   ptChoice(0, ptTimes(40, a)...),
		"very many nodes":             ptSeq(0, ptTimes(5000, a)...),
		"ten above":                   ptDeep(10),
		"ten above, rows alone":       ptNested(11),
		"ten above, the first kid":    ptSeq(0, ptDeep(9), b),
		"ten above, the last kid":     ptSeq(0, b, ptDeep(9)),
		"ten above, in a choice":      ptChoice(0, b, ptDeep(9), b),
		"the whole is an element":     a,
		"the whole is any":            ptAny(0),
		"the whole is many elements":  ptElem("a", impl.OcStar),
		"two elements":                {x, y},
		"a choice of none":            ptChoice(0),
		"a choice of one":             ptChoice(0, a),
		"a choice of one within":      ptSeq(0, ptChoice(0, a)),
		"a choice of none within":     ptSeq(0, a, ptChoice(0)),
		"an element without a name":   ptSeq(0, ptElem("", 0)),
		"a name that is none":         ptSeq(0, ptElem("1", 0)),
		"a name with a prefix":        ptSeq(0, ptElem("p:a", 0)),
		"a name with a blank":         ptSeq(0, ptElem("a ", 0)),
		"a name that is too long":     ptSeq(0, ptElem(strings.Repeat("n", 41), 0)),
		"any with a name":             {{Kind: impl.PtAny, Name: "a"}, group(seq, 0)},
		"a row with a name":           {x, {Kind: seq, Name: "a", Kids: []int64{0}}},
		"a choice with a name":        {x, y, {Kind: choice, Name: "a", Kids: []int64{0, 1}}},
		"an empty row with a name":    {{Kind: seq, Name: "a"}},
		"an element with kids":        {x, {Kind: impl.PtElem, Name: "b", Kids: []int64{0}}, group(seq, 1)},
		"any with kids":               {x, {Kind: impl.PtAny, Kids: []int64{0}}, group(seq, 1)},
		"a whole with kids, any":      {x, {Kind: impl.PtAny, Kids: []int64{0}}},
		"a node that is nobody's":     {x, y, group(seq, 1)},
		"two that are nobody's":       {x, y, z, group(seq, 2)},
		"nobody's, under no kids":     {x, group(seq)},
		"nobody's, between":           {x, y, z, group(seq, 0, 2)},
		"nobody's, the last":          {x, y, group(seq, 0)},
		"nobody's, a row":             {group(seq), x, group(seq, 1)},
		"a kid twice":                 {x, group(seq, 0, 0)},
		"a kid twice, among others":   {x, y, group(seq, 0, 1, 1)},
		"a kid twice, in two nodes":   {x, group(seq, 0), group(seq, 0, 1)},
		"a kid of a kid":              {x, group(seq, 0), group(seq, 1, 0)},
		"a kid of two":                {x, group(seq, 0), group(seq, 0), group(seq, 1, 2)},
		"kids out of order":           {x, y, group(seq, 1, 0)},
		"kids out of order, a choice": {x, y, group(choice, 1, 0)},
		"kids out of order, three":    {x, y, z, group(seq, 0, 2, 1)},
		"its own place":               {x, group(seq, 1)},
		"its own place, too":          {x, group(seq, 0, 1)},
		"its own place, alone":        {group(seq, 0)},
		"the node behind":             {x, group(seq, 2), group(seq, 1)},
		"the node behind, alone":      {group(seq, 1)},
		"a place behind all":          {x, group(seq, 9)},
		"below 0":                     {x, group(seq, -1)},
		"below 0, too":                {x, group(seq, -1, 0)},
		"below 0, alone":              {group(seq, -1)},
		"kids that share one":         {x, y, group(seq, 0, 1), group(seq, 1, 2)},
		"a kid's kid skipped":         {x, y, group(seq, 1), group(seq, 0, 1, 2)},
		"wrong within":                {x, group(seq, 1), y, group(seq, 1, 2)},
		"a kid beyond the first one":  {x, y, group(seq, -1, 0, 1)},
	}
}

// strayPt puts each number that is none into each place for one.
func strayPt() map[string][]impl.PNode {
	wrong := map[string][]impl.PNode{}
	models := [][]impl.PNode{ptSeq(0, ptElem("a", 0)), ptSeq(0, ptAny(0), ptElem("b", 0)), ptChoice(0, ptElem("a", 0), ptSeq(0), ptAny(0))}
	for i, p := range models {
		for n := range p {
			for _, far := range append([]int64{-1, 4, 5}, farOff...) {
				stray := clonePt(p)
				stray[n].Occur = far
				wrong["occur"+strconv.Itoa(i)+"."+strconv.Itoa(n)+"."+strconv.FormatInt(far, 10)] = stray
			}
			for _, far := range append([]int64{-1, 0, 5}, farOff...) {
				stray := clonePt(p)
				stray[n].Kind = far
				wrong["kind"+strconv.Itoa(i)+"."+strconv.Itoa(n)+"."+strconv.FormatInt(far, 10)] = stray
			}
			for k := range p[n].Kids {
				for _, far := range append([]int64{-1, 40, 41, 64}, farOff...) {
					stray := clonePt(p)
					stray[n].Kids[k] = far
					wrong["kid"+strconv.Itoa(i)+"."+strconv.Itoa(n)+"."+strconv.Itoa(k)+"."+strconv.FormatInt(far, 10)] = stray
				}
			}
		}
	}
	return wrong
}

func TestRightModelsAndTheirTexts(t *testing.T) {
	for text, p := range rightPt() {
		if !impl.ParticleOk(p) {
			t.Errorf("%s is refused", text)
		}
		if got := impl.ModelText(p); got != text {
			t.Errorf("%s has the text %q", text, got)
		}
		if got, ok := impl.ReadModel(text); !ok || !samePt(got, p) {
			t.Errorf("%s is read as %v, %v", text, got, ok)
		}
	}
}

// refusedPt asks every function of a model that is not right.
func refusedPt(t *testing.T, what string, p []impl.PNode) {
	t.Helper()
	if impl.ParticleOk(p) {
		t.Errorf("%s: right", what)
	}
	if text := impl.ModelText(p); text != "" {
		t.Errorf("%s: %q", what, text)
	}
	if impl.Nullable(p) || impl.Clear(p) || len(impl.FirstOf(p)) != 0 || len(impl.LastOf(p)) != 0 {
		t.Errorf("%s: something is told of it", what)
	}
	for _, n := range append([]int64{-1, 0, 1, 2, 39, 40, 41, 63, 64, int64(len(p)) - 1, int64(len(p))}, farOff...) {
		if len(impl.FollowOf(p, n)) != 0 {
			t.Errorf("%s: something follows %d", what, n)
		}
	}
	for _, row := range [][]string{nil, {}, {"a"}, {"b"}, {"a", "b"}, {"a", "a"}, {""}} {
		list, ok := impl.Attribute(p, row)
		if impl.Accepts(p, row) || ok || len(list) != 0 {
			t.Errorf("%s: %q is taken", what, row)
		}
	}
	if row, ok := impl.Sample(p); ok || len(row) != 0 {
		t.Errorf("%s: the sample %q", what, row)
	}
	if q, ok := impl.Turned(p); ok || len(q) != 0 {
		t.Errorf("%s: turned to %v", what, q)
	}
}

func TestWrongModels(t *testing.T) {
	for what, p := range wrongPt() {
		refusedPt(t, what, p)
	}
	for what, p := range strayPt() {
		refusedPt(t, what, p)
	}
}

// treeRight goes down from the whole, and counts what it meets; each node met must be the next one from behind.
func treeRight(p []impl.PNode) bool {
	left := len(p)
	if left < 1 || left > impl.MaxParts || p[left-1].Kind != impl.PtSeq && p[left-1].Kind != impl.PtChoice {
		return false
	}
	name := regexp.MustCompile(`^[A-Za-z_][-A-Za-z0-9_.]{0,39}$`)
	var down func(n int64, above int) bool
	down = func(n int64, above int) bool {
		left--
		if n != int64(left) || n < 0 || above > mostAboveOne {
			return false
		}
		node := p[n]
		named, kids := name.MatchString(node.Name), len(node.Kids)
		ok := map[int64]bool{impl.PtElem: named && kids == 0, impl.PtAny: node.Name == "" && kids == 0, impl.PtSeq: node.Name == "", impl.PtChoice: node.Name == "" && kids > 1}[node.Kind]
		ok = ok && slices.Contains(allOccurs, node.Occur)
		for i := kids - 1; ok && i >= 0; i-- {
			ok = down(node.Kids[i], above+1)
		}
		return ok
	}
	return down(int64(left-1), 0) && left == 0
}

// partOf makes a node with what belongs to it.
func (m maker) partOf(deep int, names ...string) []impl.PNode {
	occur := allOccurs[[]int{0, 0, 0, 1, 2, 3}[m.Intn(6)]]
	if deep == 0 || m.Intn(3) == 0 {
		if m.Intn(7) == 0 {
			return ptAny(occur)
		}
		return ptElem(m.pick(names...), occur)
	}
	return m.groupOf(deep, occur, names...)
}

func (m maker) groupOf(deep int, occur int64, names ...string) []impl.PNode {
	kind, n := int64(impl.PtSeq), m.Intn(4)
	if m.Intn(2) == 0 {
		kind, n = impl.PtChoice, 2+m.Intn(2)
	}
	var kids [][]impl.PNode
	for range n {
		kids = append(kids, m.partOf(deep-1, names...))
	}
	return ptGroup(kind, occur, kids...)
}

// model makes a right one.
func (m maker) model(deep int, names ...string) []impl.PNode {
	for {
		p := m.groupOf(deep, allOccurs[[]int{0, 0, 1, 2, 3}[m.Intn(5)]], names...)
		if len(p) <= impl.MaxParts {
			return p
		}
	}
}

func TestRightModelsComeBack(t *testing.T) {
	m := maker{rand.New(rand.NewSource(81))}
	for range 4000 {
		p := m.model(1+m.Intn(5), "a", "b", "other", "_x.9-")
		text := impl.ModelText(p)
		if !impl.ParticleOk(p) || text == "" {
			t.Fatalf("%v has the text %q", p, text)
		}
		if q, ok := impl.ReadModel(text); !ok || !samePt(p, q) {
			t.Fatalf("%s is read as %v, %v", text, q, ok)
		}
	}
}

// bent changes one thing of a model.
func (m maker) bent(p []impl.PNode) []impl.PNode {
	p = clonePt(p)
	n := m.Intn(len(p))
	node := &p[n]
	switch m.Intn(9) {
	case 0:
		node.Kind = int64(m.Intn(6))
	case 1:
		node.Occur = int64(m.Intn(7) - 1)
	case 2:
		node.Name = m.pick("", "a", "1", "#", "b")
	case 3:
		node.Kids = append(node.Kids, int64(m.Intn(len(p)+2)-1))
	case 4:
		if k := len(node.Kids); k > 0 {
			node.Kids[m.Intn(k)] += int64(m.Intn(3) - 1)
		}
	case 5:
		if k := len(node.Kids); k > 0 {
			node.Kids = slices.Delete(node.Kids, k-1, k)
		}
	case 6:
		m.Shuffle(len(node.Kids), func(i, j int) { node.Kids[i], node.Kids[j] = node.Kids[j], node.Kids[i] })
	case 7:
		p = slices.Delete(p, n, n+1)
	case 8:
		p = slices.Insert(p, n, ptElem("a", 0)[0])
	}
	return p
}

func TestWhichModelsAreRight(t *testing.T) {
	m := maker{rand.New(rand.NewSource(82))}
	right := 0
	for range 20000 {
		p := m.bent(m.model(1+m.Intn(3), "a", "b"))
		if m.Intn(3) == 0 && len(p) > 0 {
			p = m.bent(p)
		}
		want := treeRight(p)
		if impl.ParticleOk(p) != want {
			t.Fatalf("%+v: right is %v", p, !want)
		}
		if !want {
			if impl.ModelText(p) != "" || impl.Nullable(p) || impl.Clear(p) || len(impl.FirstOf(p)) != 0 {
				t.Fatalf("%+v is not right, and something is told of it", p)
			}
			continue
		}
		right++
		if q, ok := impl.ReadModel(impl.ModelText(p)); !ok || !samePt(p, q) {
			t.Fatalf("%+v does not come back", p)
		}
	}
	if right < 4000 || right > 16000 {
		t.Errorf("%d are right", right)
	}
}

func refusedModel(t *testing.T, s string) {
	t.Helper()
	if p, ok := impl.ReadModel(s); ok || len(p) != 0 {
		t.Errorf("%.80q is read as %v", s, p)
	}
}

func TestTextsThatAreNoModels(t *testing.T) {
	for _, s := range []string{
		"", " ", "a", "#", "a?", "#*", "a,b", "a|b", "(a),b", "(a)|b", "(a)(b)", "(a)b", "b(a)",
		"(", ")", "(a", "a)", "((a)", "(a))", ")(", "())", "(()", "(a,(b)", "[a]", "{a}",
		" (a)", "(a) ", "( a)", "(a )", "(a ,b)", "(a, b)", "(a\t)", "(a\n)", "(a)\n", "(a |b)", "(a ?)", "(a) *", "( )",
		"(,)", "(|)", "(a,)", "(,a)", "(a|)", "(|a)", "(a,,b)", "(a||b)", "(a,b,)", "(a|b|)", "(a,|b)", "(a|,b)",
		"(a,b|c)", "(a|b,c)", "(a,b,c|d)", "(a|b|c,d)", "((a,b|c))",
		"(a??)", "(a?*)", "(a**)", "(a++)", "(a*+)", "(a)**", "(a)?+", "()??", "(?)", "(*)", "(+)", "(?a)", "(*,a)", "*(a)", "?", "()(", "(a|*)",
		"(1)", "(-a)", "(.a)", "(a:b)", "(p:a)", "(é)", "(a&b)", "(a;b)", "(##)", "(#a)", "(a#)", "(a b)", "(a(b))", "((a)b)", "(a)#", "(\x00)", "(\xff)", "(a\xff)",
		"(" + strings.Repeat("n", 41) + ")", "(a," + strings.Repeat("n", 41) + "?)",
		"(a" + strings.Repeat(",a", 39) + ")", "(a" + strings.Repeat("|#", 39) + ")", "(()" + strings.Repeat(",()", 39) + ")",
		strings.Repeat("(", 10) + "a" + strings.Repeat(")", 10), strings.Repeat("(", 11) + strings.Repeat(")", 11),
		"(b," + strings.Repeat("(", 9) + "a" + strings.Repeat(")", 10),
		strings.Repeat("(", 5000000), strings.Repeat("(", 1000000) + strings.Repeat(")", 1000000), "(" + strings.Repeat("a,", 1000000) + "a)", "(" + strings.Repeat("a", 5000000) + ")", strings.Repeat(")", 1000000), "(a)" + strings.Repeat("*", 1000000),
	} {
		refusedModel(t, s)
	}
}

var (
	leafRuns   = regexp.MustCompile(`[a1]+|#`)
	leafOccurs = regexp.MustCompile(`L[?*]?`)
	groupsOfN  = regexp.MustCompile(`\((N(,N)*|N(\|N)+)?\)[?*]?`)
)

// isModel puts an N for each piece that is one, from the innermost on, until the whole is a group of such; of names it knows those of a and 1, of signs ? and *.
func isModel(s string) bool {
	named := true
	s = leafRuns.ReplaceAllStringFunc(s, func(leaf string) string {
		named = named && leaf[0] != '1'
		return "L"
	})
	s = leafOccurs.ReplaceAllString(s, "N")
	for last := ""; named && last != s; {
		last = s
		if groupsOfN.FindString(s) == s {
			return s != ""
		}
		s = groupsOfN.ReplaceAllString(s, "N")
	}
	return false
}

func TestEachShortTextOfModels(t *testing.T) {
	signs := []string{"a", "#", "(", ")", ",", "|", "?", "*", "1", " "}
	taken := 0
	texts := []string{""}
	for range 6 {
		var longer []string
		for _, s := range texts {
			for _, sign := range signs {
				longer = append(longer, s+sign)
			}
		}
		texts = longer
		for _, s := range texts {
			p, ok := impl.ReadModel(s)
			// Only what begins so can be one, and of the longest there are a million.
			if want := s[0] == '(' && isModel(s); ok != want {
				t.Fatalf("%q: read is %v", s, ok)
			}
			if ok {
				taken++
			}
			if ok && (!impl.ParticleOk(p) || impl.ModelText(p) != s) {
				t.Fatalf("%q came back as %q", s, impl.ModelText(p))
			}
		}
	}
	if taken < 150 {
		t.Errorf("%d are models", taken)
	}
}

// Texts that differ from a model's by one byte.
func TestTextsThatAreNearToModels(t *testing.T) {
	m := maker{rand.New(rand.NewSource(83))}
	for range 20000 {
		s := impl.ModelText(m.model(1+m.Intn(4), "a", "aa", "a1"))
		s = strings.ReplaceAll(s, "+", "*")
		at := m.Intn(len(s))
		switch m.Intn(3) {
		case 0:
			s = s[:at] + s[at+1:]
		case 1:
			s = s[:at] + m.pick("a", "#", "(", ")", ",", "|", "?", "*", "1") + s[at:]
		case 2:
			s = s[:at] + m.pick("a", "#", "(", ")", ",", "|", "?", "*", "1") + s[at+1:]
		}
		p, ok := impl.ReadModel(s)
		if want := isModel(s) && nodesIn(s) <= impl.MaxParts; ok != want {
			t.Fatalf("%q: read is %v", s, ok)
		}
		if ok && impl.ModelText(p) != s {
			t.Fatalf("%q came back as %q", s, impl.ModelText(p))
		}
	}
}

func nodesIn(s string) int {
	return len(leafRuns.FindAllString(s, -1)) + strings.Count(s, "(")
}
