package tests

import (
	"fmt"
	"math/rand"
	"regexp"
	"slices"
	"strings"
	"testing"
	"unicode/utf8"

	"loop.example/g00262/impl"
)

const mostTextChars = 300

// ends tells where a node can end that begins at one of the places of from: a bit for each place of a text of up to 60 characters.
func ends(list []impl.RNode, n int64, chars []rune, from uint64) uint64 {
	node := list[n]
	switch node.Kind {
	case impl.RxClass:
		to := uint64(0)
		for i, r := range chars {
			if from>>i&1 == 1 && hasChar(node, int64(r)) {
				to |= 1 << (i + 1)
			}
		}
		return to
	case impl.RxSeq:
		return ends(list, node.B, chars, ends(list, node.A, chars, from))
	case impl.RxOr:
		return ends(list, node.A, chars, from) | ends(list, node.B, chars, from)
	case impl.RxCount:
		for range node.Min {
			from = ends(list, node.A, chars, from)
		}
		for i, last := node.Min, ^from; from != last && (node.Max == -1 || i < node.Max); i++ {
			last = from
			from |= ends(list, node.A, chars, from)
		}
	}
	return from
}

func hasChar(n impl.RNode, r int64) bool {
	in := slices.ContainsFunc(n.Ranges, func(one impl.Range) bool { return one.Low <= r && r <= one.High })
	return in != n.Not
}

func takenBy(list []impl.RNode, s string) bool {
	chars := []rune(s)
	return ends(list, int64(len(list)-1), chars, 1)>>len(chars)&1 == 1
}

func TestClassHas(t *testing.T) {
	for _, c := range []struct {
		class []impl.RNode
		has   string
		not   string
	}{
		{rxChar('a'), "a", "`bA\x00é"},
		{rxRanges(true, 'a', 'a'), "`bA\x00é\U0010ffff", "a"},
		{rxRanges(false, 'b', 'd', 'x', 'x'), "bcdx", "aewy"},
		{rxRanges(true, 'b', 'd', 'x', 'x'), "aewy", "bcdx"},
		{rxRanges(false, 'b', 'd', 'c', 'f'), "bcdef", "ag"},
		{rxRanges(true, 'b', 'd', 'c', 'f'), "ag", "bcdef"},
		{rxRanges(false, 0, 0), "\x00", "\x01a"},
		{rxRanges(false, 55295, 57344), "\ud7ff\ue000", "\ud7fe\ue001"},
		{rxRanges(false, 0, 1114111), "\x00a\ud7ff\ue000\ufffe\U0010ffff", ""},
		{rxRanges(true, 0, 1114111), "", "\x00a\ud7ff\ue000\ufffe\U0010ffff"},
		{letterClass("."), "a \t\x00\v\u2028", "\n\r"},
		{letterClass("d"), "0123456789", "/:a٣\n"},
		{letterClass("D"), "/:a٣\n", "0123456789"},
		{letterClass("w"), "09AZ_az", "/:@[^`{é-"},
		{letterClass("W"), "/:@[^`{é-", "09AZ_az"},
		{letterClass("s"), "\t\n\r ", "\b\v\f\x1f!\u00a0"},
		{letterClass("S"), "\b\v\f\x1f!\u00a0", "\t\n\r "},
	} {
		for _, r := range c.has {
			if !impl.ClassHas(c.class[0], int64(r)) {
				t.Errorf("%v lacks %q", c.class, r)
			}
		}
		for _, r := range c.not {
			if impl.ClassHas(c.class[0], int64(r)) {
				t.Errorf("%v has %q", c.class, r)
			}
		}
		for _, r := range append(noChars, farOff...) {
			if impl.ClassHas(c.class[0], r) {
				t.Errorf("%v has %d, which is no character", c.class, r)
			}
		}
	}
}

func TestOnlyClassesHaveCharacters(t *testing.T) {
	for _, n := range []impl.RNode{
		{}, {Kind: impl.RxEmpty}, {Kind: impl.RxSeq}, {Kind: impl.RxOr}, {Kind: impl.RxCount, Max: 1}, {Kind: impl.RxClass}, {Kind: impl.RxClass, Not: true},
		{Kind: impl.RxEmpty, Ranges: rxChar('a')[0].Ranges}, {Kind: impl.RxCount, Ranges: rxChar('a')[0].Ranges}, {Ranges: rxChar('a')[0].Ranges},
		{Kind: impl.RxClass, Ranges: rxChar('a')[0].Ranges, A: 1}, {Kind: impl.RxClass, Ranges: rxChar('a')[0].Ranges, B: -1}, {Kind: impl.RxClass, Ranges: rxChar('a')[0].Ranges, Min: 1}, {Kind: impl.RxClass, Ranges: rxChar('a')[0].Ranges, Max: -1},
		{Kind: impl.RxClass, Ranges: []impl.Range{{Low: 'a', High: 'b'}, {Low: 'b', High: 'a'}}}, {Kind: impl.RxClass, Ranges: []impl.Range{{Low: 'a', High: 'b'}, {Low: 0, High: 1114112}}}, {Kind: impl.RxClass, Not: true, Ranges: []impl.Range{{Low: -1, High: 0}}}, {Kind: impl.RxClass, Ranges: []impl.Range{{Low: 'a', High: 57343}}},
		manyRanges(13)[0],
	} {
		if impl.ClassHas(n, 'a') {
			t.Errorf("%v has a", n)
		}
	}
	if n := manyRanges(12)[0]; !impl.ClassHas(n, 'a') || !impl.ClassHas(n, 'a'+22) || impl.ClassHas(n, 'b') {
		t.Error("twelve ranges")
	}
}

func TestMatches(t *testing.T) {
	for _, c := range []struct {
		re  string
		yes []string
		no  []string
	}{
		{"", []string{""}, []string{"a", " ", "\x00"}},
		{"a", []string{"a"}, []string{"", "b", "aa", "A", "ab", "ba"}},
		{"abc", []string{"abc"}, []string{"", "a", "ab", "bc", "abcc", "aabc", "acb"}},
		{"a|bc|", []string{"a", "bc", ""}, []string{"b", "c", "abc", "aa"}},
		{"a?", []string{"", "a"}, []string{"aa", "b"}},
		{"a*", []string{"", "a", "aa", strings.Repeat("a", 300)}, []string{"b", "ab", "ba", strings.Repeat("a", 299) + "b"}},
		{"a+", []string{"a", "aa", strings.Repeat("a", 300)}, []string{"", "b", "ab"}},
		{"a{0}", []string{""}, []string{"a"}},
		{"a{2}", []string{"aa"}, []string{"", "a", "aaa"}},
		{"a{2,}", []string{"aa", "aaa", strings.Repeat("a", 300)}, []string{"", "a"}},
		{"a{2,4}", []string{"aa", "aaa", "aaaa"}, []string{"", "a", "aaaaa"}},
		{"a{0,2}", []string{"", "a", "aa"}, []string{"aaa"}},
		{"a{20}", []string{strings.Repeat("a", 20)}, []string{strings.Repeat("a", 19), strings.Repeat("a", 21)}},
		{"a{20,}", []string{strings.Repeat("a", 20), strings.Repeat("a", 21)}, []string{strings.Repeat("a", 19)}},
		{"(ab){2,3}", []string{"abab", "ababab"}, []string{"", "ab", "aba", "aabb", "abababab", "ababa"}},
		{"(a|bc){2}", []string{"aa", "abc", "bca", "bcbc"}, []string{"a", "bc", "abca", "b", "aab"}},
		{"(a{2}){3}", []string{"aaaaaa"}, []string{"aaaaa", "aaaaaaa", "aa"}},
		{"(a{2,3}){2}", []string{"aaaa", "aaaaa", "aaaaaa"}, []string{"aaa", "aaaaaaa"}},
		{"(a{2})*", []string{"", "aa", "aaaa"}, []string{"a", "aaa"}},
		{"(a{3}|a{5})*", []string{"", "aaa", "aaaaa", "aaaaaa", "aaaaaaaa", strings.Repeat("a", 11)}, []string{"a", "aa", "aaaa", "aaaaaaa"}},
		{"()*", []string{""}, []string{"a"}},
		{"(){20}", []string{""}, []string{"a"}},
		{"(()|a){3}", []string{"", "a", "aa", "aaa"}, []string{"aaaa"}},
		{"(a?){3}b", []string{"b", "ab", "aab", "aaab"}, []string{"", "aaaab", "aaa"}},
		{"(a*){3}", []string{"", "a", "aaaaaaa"}, []string{"b"}},
		{"(a*)*", []string{"", "a", "aaaaaaa"}, []string{"b", "ab"}},
		{"(a*)+", []string{"", "a", "aaaaaaa"}, []string{"b", "ab"}},
		{"(a+)?", []string{"", "a", "aaaaaaa"}, []string{"b"}},
		{"(a?)+", []string{"", "a", "aaaaaaa"}, []string{"b"}},
		{"((a?){2}b?){2}", []string{"", "a", "b", "aa", "ab", "aab", "bb", "aaaa", "aabaab", "baab", "aba"}, []string{"aaaaa", "bbb", "aaba" + "ab" + "b", "c"}},
		{"(a*b*)*c", []string{"c", "ac", "bac", "abbabac"}, []string{"", "ab", "ca"}},
		{"(a|b)*abb", []string{"abb", "aabb", "babb", "ababb"}, []string{"", "ab", "abba", "bb"}},
		{"(a{0})*", []string{""}, []string{"a"}},
		{"((a{0})*b)*", []string{"", "b", "bb"}, []string{"a", "ab"}},
		{"[^a]*", []string{"", "bcd\n\r\t\x00é"}, []string{"a", "bab"}},
		{".*", []string{"", "a\tb\x00", "😀"}, []string{"\n", "\r", "a\n"}},
		{"\\n\\r\\t", []string{"\n\r\t"}, []string{"nrt", "\\n\\r\\t", "\n\n\t"}},
		{"\\d{1,2}\\s\\w+", []string{"1 a", "12\t_9", "01\nZ"}, []string{"123 a", "1a", "1 -", "1  a"}},
		{"\\D\\W\\S", []string{"a-b", "\n\n\v"}, []string{"1-b", "aab", "a- "}},
		{"\x00+", []string{"\x00", "\x00\x00"}, []string{"", "\x01"}},
		{"[é-ü]{2}", []string{"éü", "ûë"}, []string{"é", "eé", "ýé"}},
		{"[^\x00-\U0010ffff]|a", []string{"a"}, []string{"", "b"}},
		{"[^\x00-\U0010ffff]?", []string{""}, []string{"a"}},
		{"\\.\\\\\\*", []string{".\\*"}, []string{"a\\*", "..*"}},
	} {
		list := readRx(t, c.re)
		for _, s := range c.yes {
			if !impl.Matches(list, s) {
				t.Errorf("%q does not take %q", c.re, s)
			}
		}
		for _, s := range c.no {
			if impl.Matches(list, s) {
				t.Errorf("%q takes %q", c.re, s)
			}
		}
	}
}

func TestLongTextsAreNotTaken(t *testing.T) {
	all := rxCount(rxRanges(false, 0, 1114111), 0, -1)
	for _, char := range []string{"a", "\x00", "é", "\ufffd", "😀", "\n"} {
		if !impl.Matches(all, strings.Repeat(char, mostTextChars)) {
			t.Errorf("300 of %q are not taken", char)
		}
		if impl.Matches(all, strings.Repeat(char, mostTextChars+1)) {
			t.Errorf("301 of %q are taken", char)
		}
	}
	for _, s := range []string{"\x80", "a\xff", "\xc3", "\xed\xa0\x80", "\xc0\x80", "\xf4\x90\x80\x80", "é\xe2\x82", strings.Repeat("a", 20000), strings.Repeat("a", 20001)} {
		if impl.Matches(all, s) {
			t.Errorf("%q is taken", s)
		}
	}
}

// What would take ages if each way were gone for itself.
func TestHeavyExpressions(t *testing.T) {
	row := strings.Repeat("a", mostTextChars)
	wide := rxCount(rxCount(rxCount(rxCount(rxRanges(true, 'b', 'b'), 0, 1), 0, 20), 0, 20), 0, 5)
	deep := rxChar('a')
	for i := range 116 {
		deep = rxCount(deep, 0, []int64{1, -1}[i%3/2])
	}
	deep = rxCount(rxCount(rxCount(deep, 0, 20), 0, 20), 0, 5)
	questions := rxCount(rxCount(rxCount(rxDeep(116, 0, 1), 0, 20), 0, 20), 0, 5)
	plus := rxDeep(10, 1, -1)
	for what, list := range map[string][]impl.RNode{"stars": rxDeep(119, 0, -1), "questions": questions, "both": deep, "wide": wide, "plus": plus, "heavy": heavy()} {
		if !impl.Matches(list, row) {
			t.Errorf("%s: not taken", what)
		}
		if impl.Matches(list, row[1:]+"b") || impl.Matches(list, "b"+row[1:]) {
			t.Errorf("%s: taken", what)
		}
	}
	if impl.Matches(rxDeep(119, 0, 1), "aa") || !impl.Matches(rxDeep(119, 0, 1), "a") || !impl.Matches(rxDeep(119, 0, 1), "") {
		t.Error("119 questions")
	}
	if most := rxCount(rxCount(rxChar('a'), 20, 20), 15, 15); !impl.Matches(most, row) || impl.Matches(most, row[1:]) {
		t.Error("20 times 15")
	}
}

func (m maker) smallClass() []impl.RNode {
	switch m.Intn(8) {
	case 0:
		return rxEmpty()
	case 1:
		return rxRanges(true, 'a', 'a')
	case 2:
		return rxRanges(false, 'a', 'b')
	case 3:
		return rxRanges(true, 0, 'b', 'd', 1114111)
	case 4:
		return rxRanges(true, 0, 1114111)
	}
	return rxChar('a' + int64(m.Intn(3)))
}

func (m maker) smallText() string {
	return m.some(7, func() string { return m.pick("a", "b", "c") })
}

// sample makes a text that a node takes, if it finds one.
func (m maker) sample(list []impl.RNode, n int64) string {
	node := list[n]
	switch node.Kind {
	case impl.RxClass:
		for _, r := range m.Perm(3) {
			if hasChar(node, 'a'+int64(r)) {
				return string(rune('a' + r))
			}
		}
	case impl.RxSeq:
		return m.sample(list, node.A) + m.sample(list, node.B)
	case impl.RxOr:
		return m.sample(list, []int64{node.A, node.B}[m.Intn(2)])
	case impl.RxCount:
		most := max(node.Max, node.Min+2*(node.Max&1))
		s := ""
		for range node.Min + m.Int63n(most-node.Min+1) {
			s += m.sample(list, node.A)
		}
		return s
	}
	return ""
}

func TestMatchesAsItsPartsEnd(t *testing.T) {
	m := maker{rand.New(rand.NewSource(8))}
	taken := 0
	for range 4000 {
		list := m.rx(m.smallClass)
		texts := []string{"", m.smallText(), m.smallText(), m.sample(list, int64(len(list)-1)), m.sample(list, int64(len(list)-1)) + m.pick("a", "c")}
		for _, s := range texts {
			if len(s) > 60 {
				continue
			}
			want := takenBy(list, s)
			if impl.Matches(list, s) != want {
				t.Fatalf("%s and %q: not %v", impl.RegexText(list), s, want)
			}
			if want && s != "" {
				taken++
			}
		}
	}
	if taken < 1500 {
		t.Errorf("only %d were taken", taken)
	}
}

// libraryText is what the library's regexp reads; it knows no counts of over 1000 in all.
func libraryText(list []impl.RNode, n int64) string {
	node := list[n]
	switch node.Kind {
	case impl.RxClass:
		s := "["
		if node.Not {
			s += "^"
		}
		for _, r := range node.Ranges {
			s += fmt.Sprintf(`\x{%x}-\x{%x}`, r.Low, r.High)
		}
		return s + "]"
	case impl.RxSeq:
		return "(?:" + libraryText(list, node.A) + ")(?:" + libraryText(list, node.B) + ")"
	case impl.RxOr:
		return "(?:" + libraryText(list, node.A) + ")|(?:" + libraryText(list, node.B) + ")"
	case impl.RxCount:
		limits := fmt.Sprintf("{%d,%d}", node.Min, node.Max)
		if node.Max == -1 {
			limits = fmt.Sprintf("{%d,}", node.Min)
		}
		return "(?:" + libraryText(list, node.A) + ")" + limits
	}
	return ""
}

func TestMatchesAsTheLibraryDoes(t *testing.T) {
	m := maker{rand.New(rand.NewSource(9))}
	held := 0
	for range 1500 {
		list := m.rx(m.anyClass)
		other, err := regexp.Compile(`\A(?:` + libraryText(list, int64(len(list)-1)) + `)\z`)
		if err != nil {
			continue
		}
		held++
		short, _ := impl.Shortest(list)
		for _, s := range []string{"", short, m.some(4, func() string { return encode(m.anyChar()) })} {
			if impl.Matches(list, s) != other.MatchString(s) {
				t.Fatalf("%q and %q: not %v", impl.RegexText(list), s, other.MatchString(s))
			}
		}
	}
	if held < 1000 {
		t.Errorf("only %d were held against the library", held)
	}
}

func TestChoicesAndRowsOfExpressions(t *testing.T) {
	m := maker{rand.New(rand.NewSource(10))}
	for range 3000 {
		a, b := m.rx(m.smallClass), m.rx(m.smallClass)
		s := m.pick(m.smallText(), m.sample(a, int64(len(a)-1))+m.sample(b, int64(len(b)-1)))
		if either := rxOr(a, b); impl.RegexOk(either) && len(s) <= mostTextChars && impl.Matches(either, s) != (impl.Matches(a, s) || impl.Matches(b, s)) {
			t.Fatalf("%s and %q", impl.RegexText(either), s)
		}
		row := rxSeq(a, b)
		if !impl.RegexOk(row) || len(s) > 40 {
			continue
		}
		cut := false
		for i := range len(s) + 1 {
			cut = cut || impl.Matches(a, s[:i]) && impl.Matches(b, s[i:])
		}
		if impl.Matches(row, s) != cut {
			t.Fatalf("%s and %q: not %v", impl.RegexText(row), s, cut)
		}
	}
}

func TestShortest(t *testing.T) {
	none := rxRanges(true, 0, 1114111)
	a, b := rxChar('a'), rxChar('b')
	most := rxCount(rxCount(a, 20, 20), 15, 15)
	over := rxCount(rxCount(a, 20, 20), 16, 16)
	wide := rxCount(rxCount(rxChar(1114111), 20, 20), 15, 15)
	for what, c := range map[string]struct {
		list []impl.RNode
		s    string
		ok   bool
	}{
		"empty":                      {rxEmpty(), "", true},
		"one":                        {a, "a", true},
		"least of ranges":            {rxRanges(false, 'x', 'z', 'c', 'd', 'e', 'e'), "c", true},
		"least of all":               {rxRanges(false, 0, 1114111), "\x00", true},
		"least that is not a":        {rxRanges(true, 'a', 'a'), "\x00", true},
		"least behind some":          {rxRanges(true, 5, 9, 0, 4), "\n", true},
		"least between some":         {rxRanges(true, 0, 4, 6, 9), "\x05", true},
		"least behind what overlaps": {rxRanges(true, 0, 9, 2, 'a', 3, 4), "b", true},
		"least ahead of the gap":     {rxRanges(true, 0, 55294, 57344, 1114111), "\ud7ff", true},
		"least behind the gap":       {rxRanges(true, 0, 55295), "\ue000", true},
		"least over the gap":         {rxRanges(true, 0, 57344), "\ue001", true},
		"the last":                   {rxRanges(true, 0, 1114110), "\U0010ffff", true},
		"none":                       {none, "", false},
		"none but the gap":           {rxRanges(true, 57344, 1114111, 0, 55295), "", false},
		"row":                        {rxSeq(b, a), "ba", true},
		"row with none":              {rxSeq(a, none), "", false},
		"row behind none":            {rxSeq(none, a), "", false},
		"first of two alike":         {rxOr(b, a), "b", true},
		"the other one is shorter":   {rxOr(rxSeq(a, b), b), "b", true},
		"the other one is longer":    {rxOr(b, rxSeq(a, b)), "b", true},
		"the other one is empty":     {rxOr(a, rxEmpty()), "", true},
		"none or a":                  {rxOr(none, a), "a", true},
		"a or none":                  {rxOr(a, none), "a", true},
		"none or none":               {rxOr(none, none), "", false},
		"less characters, not bytes": {rxOr(rxSeq(a, b), rxChar('😀')), "😀", true},
		"more characters, not bytes": {rxOr(rxChar('é'), rxChar('a')), "é", true},
		"no times":                   {rxCount(a, 0, 5), "", true},
		"no times none":              {rxCount(none, 0, 5), "", true},
		"never none":                 {rxCount(none, 0, 0), "", true},
		"once none":                  {rxCount(none, 1, 1), "", false},
		"three times":                {rxCount(rxSeq(a, b), 3, -1), "ababab", true},
		"twenty times":               {rxCount(a, 20, 20), strings.Repeat("a", 20), true},
		"twenty times nothing":       {rxCount(rxCount(a, 0, 1), 20, 20), "", true},
		"300":                        {most, strings.Repeat("a", 300), true},
		"300 wide ones":              {wide, strings.Repeat("\U0010ffff", 300), true},
		"300 and nothing":            {rxSeq(most, rxEmpty()), strings.Repeat("a", 300), true},
		"300 once":                   {rxCount(most, 1, 1), strings.Repeat("a", 300), true},
		"301":                        {rxSeq(most, b), "", false},
		"301 turned round":           {rxSeq(b, most), "", false},
		"301 wide ones":              {rxSeq(wide, b), "", false},
		"299 and 1":                  {rxSeq(rxCount(rxSeq(rxCount(a, 12, 12), b), 20, 20), rxCount(rxSeq(a, a, a, a), 9, 9), rxRow("xyz"), b), strings.Repeat(strings.Repeat("a", 12)+"b", 20) + strings.Repeat("a", 36) + "xyzb", true},
		"299 and 2":                  {rxSeq(rxCount(rxSeq(rxCount(a, 12, 12), b), 20, 20), rxCount(rxSeq(a, a, a, a), 9, 9), rxRow("xyz"), rxRow("bc")), "", false},
		"7 times 43":                 {rxCount(rxRow(strings.Repeat("a", 43)), 7, 7), "", false},
		"7 times 42":                 {rxCount(rxRow(strings.Repeat("a", 42)), 7, 7), strings.Repeat("a", 294), true},
		"320":                        {over, "", false},
		"320 or b":                   {rxOr(over, b), "b", true},
		"b or 320":                   {rxOr(b, over), "b", true},
		"320 or 320":                 {rxOr(over, over), "", false},
		"320 or 300":                 {rxOr(over, most), strings.Repeat("a", 300), true},
		"320 no times":               {rxCount(over, 0, 1), "", true},
		"once 320":                   {rxCount(over, 1, 1), "", false},
		"320 and then no times":      {rxCount(rxSeq(over, b), 0, -1), "", true},
		"300 twice":                  {rxCount(most, 2, 2), "", false},
		"nothing and 320":            {rxSeq(rxEmpty(), over), "", false},
		"119 deep":                   {rxDeep(119, 0, 1), "", true},
	} {
		if s, ok := impl.Shortest(c.list); s != c.s || ok != c.ok {
			t.Errorf("%s gave %q %v", what, s, ok)
		}
		if c.ok && !impl.Matches(c.list, c.s) {
			t.Errorf("%s is not taken", what)
		}
	}
}

// eachText goes through all texts of a, b, c of up to some length.
func eachText(most int, look func(s string)) {
	texts := []string{""}
	for i := 0; i < len(texts); i++ {
		look(texts[i])
		for _, r := range "abc" {
			if len(texts[i]) < most {
				texts = append(texts, texts[i]+string(r))
			}
		}
	}
}

func TestNoneIsShorter(t *testing.T) {
	m := maker{rand.New(rand.NewSource(11))}
	for range 1500 {
		// Classes of a, b and c alone: no other text can be shorter.
		list := m.rx(func() []impl.RNode {
			return [][]impl.RNode{rxEmpty(), rxChar('a'), rxChar('b'), rxRanges(false, 'b', 'c'), rxRanges(true, 0, 1114111)}[m.Intn(5)]
		})
		s, ok := impl.Shortest(list)
		if ok && !impl.Matches(list, s) {
			t.Fatalf("%q is not taken by %s", s, impl.RegexText(list))
		}
		most := 5
		if ok {
			most = min(5, len(s)-1)
		}
		eachText(most, func(other string) {
			if len(other) <= most && takenBy(list, other) {
				t.Fatalf("%s takes %q, %q was told (%v)", impl.RegexText(list), other, s, ok)
			}
		})
	}
}

func TestTheShortestIsTaken(t *testing.T) {
	m := maker{rand.New(rand.NewSource(12))}
	for range 4000 {
		list := m.rx(m.anyClass)
		if s, ok := impl.Shortest(list); ok != impl.Matches(list, s) || !ok && s != "" || utf8.RuneCountInString(s) > mostTextChars {
			t.Fatalf("%s: %q %v", impl.RegexText(list), s, ok)
		}
	}
}

func TestLiteral(t *testing.T) {
	m := maker{rand.New(rand.NewSource(13))}
	texts := []string{"", "a", "ab", "abc", "a.*", rxMarks, "^-\t\n\r", "\x00", "é€😀", "\U0010ffff", strings.Repeat("a", 60), strings.Repeat("😀", 60), strings.Repeat(".", 60)}
	for range 300 {
		texts = append(texts, m.some(12, func() string { return encode(m.anyChar()) }))
	}
	for _, s := range texts {
		list, ok := impl.Literal(s)
		want := rxRow(s)
		if s == "" {
			want = rxEmpty()
		}
		if !ok || !sameRx(list, want) || !impl.RegexOk(list) {
			t.Fatalf("%q gave %v %v", s, list, ok)
		}
		if short, ok := impl.Shortest(list); !ok || short != s || !impl.Matches(list, s) {
			t.Errorf("%q has the shortest text %q %v", s, short, ok)
		}
		if text := impl.RegexText(list); !sameRx(readRx(t, text), list) {
			t.Errorf("%q does not come back from %q", s, text)
		}
		for _, other := range othersOf(s) {
			if impl.Matches(list, other) {
				t.Errorf("the expression of %q takes %q", s, other)
			}
		}
	}
}

// othersOf are texts near to one: with a character more, less, or another one.
func othersOf(s string) []string {
	chars := []rune(s)
	others := []string{s + "a", "a" + s, s + "\x00"}
	if s != "" {
		others = append(others, "", s+s)
	}
	for i, r := range chars {
		others = append(others, string(slices.Delete(slices.Clone(chars), i, i+1)))
		one := slices.Clone(chars)
		one[i] = 'x'
		if r == 'x' {
			one[i] = 'y'
		}
		others = append(others, string(one))
	}
	return others
}

func TestLiteralRefuses(t *testing.T) {
	for _, s := range []string{strings.Repeat("a", 61), strings.Repeat("😀", 61), strings.Repeat("\x00", 61), "\x80", "a\xff", "\xed\xa0\x80", "\xc0\x80", "é\xe2\x82", strings.Repeat("a", 20001)} {
		if list, ok := impl.Literal(s); ok || len(list) != 0 {
			t.Errorf("%q gave %v", s, list)
		}
	}
}

// spare gives a list and its ranges room behind them, with marks there.
func spare(list []impl.RNode) []impl.RNode {
	out := append(cloneRx(list), impl.RNode{Kind: 77})[:len(list)]
	for i := range out {
		out[i].Ranges = append(out[i].Ranges, impl.Range{Low: 77, High: 77})[:len(out[i].Ranges)]
	}
	return out
}

func TestExpressionsAreLeftAsTheyAre(t *testing.T) {
	m := maker{rand.New(rand.NewSource(14))}
	for range 300 {
		list := spare(m.rx(m.anyClass))
		kept := cloneRx(list)
		s, text, ok := m.smallText(), impl.RegexText(list), impl.RegexOk(list)
		short, some := impl.Shortest(list)
		taken := impl.Matches(list, s)
		impl.ClassHas(list[0], 'a')
		if again, more := impl.Shortest(list); again != short || more != some || impl.RegexText(list) != text || impl.Matches(list, s) != taken || impl.RegexOk(list) != ok {
			t.Fatalf("%s answers in two ways", text)
		}
		if !sameRx(list, kept) || list[:len(list)+1][len(list)].Kind != 77 {
			t.Fatalf("%s was changed", text)
		}
		for _, n := range list {
			if (n.Ranges[:len(n.Ranges)+1][len(n.Ranges)] != impl.Range{Low: 77, High: 77}) {
				t.Fatalf("%s was changed behind its ranges", text)
			}
		}
	}
}

func TestNodesShareNoMemory(t *testing.T) {
	read := readRx(t, "[a-c]\\d\\d\\w\\w\\s\\s..[a-c]{2}\\Dxx")
	row, _ := impl.Literal("aaa.\\")
	for _, list := range [][]impl.RNode{read, row, readRx(t, "\\d\\d")} {
		want := cloneRx(list)
		for i := range list {
			if len(list[i].Ranges) == 0 {
				continue
			}
			for j := range list[i].Ranges[:cap(list[i].Ranges)] {
				list[i].Ranges[:cap(list[i].Ranges)][j] = impl.Range{Low: 1, High: 2}
			}
			list[i].Ranges = nil
			want[i].Ranges = nil
			if !sameRx(list, want) {
				t.Fatalf("node %d shares memory", i)
			}
		}
	}
	if again := readRx(t, "\\d\\d"); !sameRx(again, rxSeq(letterClass("d"), letterClass("d"))) {
		t.Error("an answer is kept")
	}
}
