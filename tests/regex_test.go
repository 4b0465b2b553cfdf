package tests

import (
	"math/rand"
	"reflect"
	"regexp"
	"slices"
	"strconv"
	"strings"
	"testing"
	"unicode/utf8"

	"loop.example/g00262/impl"
)

const (
	mostRxChars = 400
	rxMarks     = ".\\?*+{}()|[]"
	inMarks     = "[]\\-^"
)

func rxEmpty() []impl.RNode { return []impl.RNode{{Kind: impl.RxEmpty}} }

// rxRanges is a class of ranges that are told as pairs.
func rxRanges(not bool, ends ...int64) []impl.RNode {
	n := impl.RNode{Kind: impl.RxClass, Not: not}
	for i := 0; i < len(ends); i += 2 {
		n.Ranges = append(n.Ranges, impl.Range{Low: ends[i], High: ends[i+1]})
	}
	return []impl.RNode{n}
}

func rxChar(r int64) []impl.RNode { return rxRanges(false, r, r) }

func cloneRx(list []impl.RNode) []impl.RNode {
	out := slices.Clone(list)
	for i := range out {
		out[i].Ranges = slices.Clone(out[i].Ranges)
	}
	return out
}

// rxBoth joins rows or choices from the left.
func rxBoth(kind int64, first []impl.RNode, others ...[]impl.RNode) []impl.RNode {
	out := cloneRx(first)
	for _, other := range others {
		left := int64(len(out))
		for _, n := range cloneRx(other) {
			switch n.Kind {
			case impl.RxSeq, impl.RxOr:
				n.A, n.B = n.A+left, n.B+left
			case impl.RxCount:
				n.A += left
			}
			out = append(out, n)
		}
		out = append(out, impl.RNode{Kind: kind, A: left - 1, B: int64(len(out) - 1)})
	}
	return out
}

func rxSeq(first []impl.RNode, others ...[]impl.RNode) []impl.RNode {
	return rxBoth(impl.RxSeq, first, others...)
}

func rxOr(first []impl.RNode, others ...[]impl.RNode) []impl.RNode {
	return rxBoth(impl.RxOr, first, others...)
}

func rxCount(a []impl.RNode, low, high int64) []impl.RNode {
	return append(cloneRx(a), impl.RNode{Kind: impl.RxCount, A: int64(len(a) - 1), Min: low, Max: high})
}

// rxRow is a row of the characters of a text.
func rxRow(s string) []impl.RNode {
	var list []impl.RNode
	for i, r := range s {
		if i == 0 {
			list = rxChar(int64(r))
		} else {
			list = rxSeq(list, rxChar(int64(r)))
		}
	}
	return list
}

// rxDeep is a within n counts.
func rxDeep(n int, low, high int64) []impl.RNode {
	list := rxChar('a')
	for range n {
		list = rxCount(list, low, high)
	}
	return list
}

func manyRanges(n int) []impl.RNode {
	var ends []int64
	for i := range int64(n) {
		ends = append(ends, 'a'+2*i, 'a'+2*i)
	}
	return rxRanges(false, ends...)
}

func sameRx(a, b []impl.RNode) bool {
	return slices.EqualFunc(a, b, func(x, y impl.RNode) bool {
		same := slices.Equal(x.Ranges, y.Ranges)
		x.Ranges, y.Ranges = nil, nil
		return same && reflect.DeepEqual(x, y)
	})
}

// heavy weighs 2000, to the last.
func heavy() []impl.RNode {
	return rxCount(rxCount(rxCount(rxChar('a'), 0, 20), 0, 20), 0, 5)
}

func rightRx() map[string][]impl.RNode {
	a, b, c := rxChar('a'), rxChar('b'), rxChar('c')
	return map[string][]impl.RNode{
		"empty":               rxEmpty(),
		"one":                 a,
		"ends":                rxRanges(true, 0, 0, 55295, 57344, 1114111, 1114111),
		"all":                 rxRanges(false, 0, 1114111),
		"none":                rxRanges(true, 0, 1114111),
		"twelve ranges":       manyRanges(impl.MaxRanges),
		"row":                 rxSeq(a, b),
		"row in row":          rxSeq(a, rxSeq(b, c)),
		"choice":              rxOr(a, b),
		"choice in choice":    rxOr(a, rxOr(b, c)),
		"both":                rxOr(rxSeq(a, b), rxSeq(rxOr(a, b), rxOr(b, c))),
		"no times":            rxCount(a, 0, 0),
		"once":                rxCount(a, 1, 1),
		"most":                rxCount(a, 20, 20),
		"most and on":         rxCount(a, 20, -1),
		"none to most":        rxCount(a, 0, 20),
		"count of row":        rxCount(rxSeq(a, b), 2, 3),
		"count of empty":      rxCount(rxEmpty(), 0, -1),
		"119 nodes":           rxRow(strings.Repeat("x", 60)),
		"120 nodes":           rxCount(rxRow(strings.Repeat("x", 60)), 0, 1),
		"119 stars":           rxDeep(119, 0, -1),
		"weight 2000":         heavy(),
		"weight 2000 by ones": rxCount(rxCount(rxCount(rxSeq(a, b, c, a, b), 19, -1), 19, 19), 0, 1),
		"weight 1995":         rxCount(rxCount(rxCount(rxSeq(a, b, c, a, b), 20, -1), 18, 18), 0, 1),
	}
}

func wrongRx() map[string][]impl.RNode {
	a, b := rxChar('a'), rxChar('b')
	out := map[string][]impl.RNode{
		"no nodes":          nil,
		"two wholes":        {{Kind: impl.RxEmpty}, {Kind: impl.RxEmpty}},
		"two classes":       {a[0], b[0]},
		"121 nodes":         rxCount(rxCount(rxRow(strings.Repeat("x", 60)), 0, 1), 0, 1),
		"120 stars":         rxDeep(120, 0, -1),
		"weight 2001":       rxOr(heavy(), rxEmpty()),
		"weight 2001 too":   rxSeq(a, heavy()),
		"weight 2100":       rxCount(rxCount(rxCount(rxSeq(a, b, a, b, a), 20, -1), 20, 20), 0, 1),
		"weight beyond all": rxDeep(119, 20, 20),
		"heavy within":      rxSeq(rxCount(heavy(), 0, 2), a),
		"no ranges":         {{Kind: impl.RxClass}},
		"no ranges, not":    {{Kind: impl.RxClass, Not: true}},
		"thirteen ranges":   manyRanges(impl.MaxRanges + 1),
		"turned round":      rxRanges(false, 'b', 'a'),
		"turned round last": rxRanges(false, 'a', 'b', 'b', 'a'),
	}
	for i, r := range noChars {
		out["no low "+strconv.Itoa(i)] = rxRanges(false, r, 1114111)
		out["no high "+strconv.Itoa(i)] = rxRanges(true, 0, r)
		out["no char "+strconv.Itoa(i)] = rxRanges(false, 'a', 'a', r, r)
	}
	for _, kind := range append([]int64{0, 6, -1, 1 << 8, 1<<32 + 1}, farOff...) {
		out["kind "+strconv.FormatInt(kind, 10)] = []impl.RNode{{Kind: kind}}
		out["class of kind "+strconv.FormatInt(kind, 10)] = []impl.RNode{{Kind: kind, Ranges: a[0].Ranges}}
	}
	for _, ends := range [][2]int64{{0, 21}, {1, 0}, {20, 19}, {3, 2}, {21, 21}, {21, -1}, {-1, -1}, {-1, 1}, {0, -2}, {1, -2}, {2, 1 << 32}} {
		out["count "+strconv.FormatInt(ends[0], 10)+" "+strconv.FormatInt(ends[1], 10)] = rxCount(a, ends[0], ends[1])
	}
	for _, far := range farOff {
		out["min "+strconv.FormatInt(far, 10)] = rxCount(a, far, -1)
		out["min and max "+strconv.FormatInt(far, 10)] = rxCount(a, far, far)
		out["max "+strconv.FormatInt(far, 10)] = rxCount(a, 0, far)
	}
	return out
}

// strayFields are right nodes with one field that their last one's Kind does not name, or with a place that is not the one asked for.
func strayFields() map[string][]impl.RNode {
	out := map[string][]impl.RNode{}
	change := func(what string, list []impl.RNode, tell func(n *impl.RNode)) {
		list = cloneRx(list)
		tell(&list[len(list)-1])
		out[what] = list
	}
	kinds := map[string][]impl.RNode{
		"empty": rxEmpty(), "class": rxRanges(true, 'a', 'b'), "row": rxSeq(rxChar('a'), rxChar('b')), "choice": rxOr(rxSeq(rxChar('a'), rxChar('b')), rxSeq(rxChar('a'), rxEmpty())), "count": rxCount(rxSeq(rxChar('a'), rxChar('b')), 2, 3),
	}
	for name, list := range kinds {
		if name != "class" {
			change(name+" with Not", list, func(n *impl.RNode) { n.Not = true })
			change(name+" with Ranges", list, func(n *impl.RNode) { n.Ranges = []impl.Range{{Low: 'a', High: 'a'}} })
			change(name+" with a Range of noughts", list, func(n *impl.RNode) { n.Ranges = make([]impl.Range, 1) })
		}
		for _, by := range append([]int64{-3, -2, -1, 1, 2}, farOff...) {
			change(name+" with A off by "+strconv.FormatInt(by, 10), list, func(n *impl.RNode) { n.A += by })
			change(name+" with B off by "+strconv.FormatInt(by, 10), list, func(n *impl.RNode) { n.B += by })
			if name != "count" {
				change(name+" with Min "+strconv.FormatInt(by, 10), list, func(n *impl.RNode) { n.Min = by })
				change(name+" with Max "+strconv.FormatInt(by, 10), list, func(n *impl.RNode) { n.Max = by })
			}
		}
	}
	a, b := rxChar('a')[0], rxChar('b')[0]
	out["turned places"] = []impl.RNode{a, b, {Kind: impl.RxSeq, A: 1, B: 0}}
	out["one twice"] = []impl.RNode{a, {Kind: impl.RxSeq, A: 0, B: 0}}
	out["one that is left over"] = []impl.RNode{a, a, b, {Kind: impl.RxOr, A: 1, B: 2}}
	out["one that two take"] = []impl.RNode{a, b, {Kind: impl.RxSeq, A: 0, B: 1}, b, {Kind: impl.RxSeq, A: 1, B: 3}}
	out["a row of nothing"] = []impl.RNode{{Kind: impl.RxSeq}}
	out["a row of what is not there"] = []impl.RNode{{Kind: impl.RxSeq, A: -2, B: -1}}
	out["a row with one"] = []impl.RNode{a, {Kind: impl.RxSeq, A: -1, B: 0}}
	out["a count of nothing"] = []impl.RNode{{Kind: impl.RxCount}}
	out["a count of what is not there"] = []impl.RNode{{Kind: impl.RxCount, A: -1, Max: 1}}
	out["a count of itself"] = []impl.RNode{a, {Kind: impl.RxCount, A: 1, Max: 1}}
	out["a count ahead"] = []impl.RNode{{Kind: impl.RxCount, A: 1, Max: 1}, a}
	return out
}

func TestRegexOk(t *testing.T) {
	for what, list := range rightRx() {
		if !impl.RegexOk(list) {
			t.Errorf("%s is refused", what)
		}
	}
}

func TestWrongNodesAreRefused(t *testing.T) {
	for _, all := range []map[string][]impl.RNode{wrongRx(), strayFields()} {
		for what, list := range all {
			if impl.RegexOk(list) {
				t.Errorf("%s is right", what)
			}
			if s := impl.RegexText(list); s != "" {
				t.Errorf("%s has the text %q", what, s)
			}
			if impl.Matches(list, "") || impl.Matches(list, "a") || impl.Matches(list, "ab") {
				t.Errorf("%s takes something", what)
			}
			if s, ok := impl.Shortest(list); ok || s != "" {
				t.Errorf("%s has a shortest text %q %v", what, s, ok)
			}
			if len(list) == 1 && impl.ClassHas(list[0], 'a') {
				t.Errorf("%s has a character", what)
			}
		}
	}
}

// readRx wants a text that is right.
func readRx(t *testing.T, s string) []impl.RNode {
	t.Helper()
	list, ok := impl.ReadRegex(s)
	if !ok {
		t.Fatalf("%q is not read", s)
	}
	return list
}

func refusedRx(t *testing.T, s string) {
	t.Helper()
	if list, ok := impl.ReadRegex(s); ok || len(list) != 0 {
		t.Errorf("%q gave %v %v", s, list, ok)
	}
}

// The texts of nodes, and the nodes of texts.
func TestRegexTexts(t *testing.T) {
	a, b, c := rxChar('a'), rxChar('b'), rxChar('c')
	for _, r := range []struct {
		s    string
		list []impl.RNode
	}{
		{"", rxEmpty()},
		{"a", a},
		{"ab", rxSeq(a, b)},
		{"abc", rxSeq(a, b, c)},
		{"a(bc)", rxSeq(a, rxSeq(b, c))},
		{"a|b", rxOr(a, b)},
		{"a|b|c", rxOr(a, b, c)},
		{"a|(b|c)", rxOr(a, rxOr(b, c))},
		{"ab|c", rxOr(rxSeq(a, b), c)},
		{"a|bc", rxOr(a, rxSeq(b, c))},
		{"a|b(ca)", rxOr(a, rxSeq(b, rxSeq(c, a)))},
		{"a(b|c)", rxSeq(a, rxOr(b, c))},
		{"(a|b)c", rxSeq(rxOr(a, b), c)},
		{"(a|b)(b|c)", rxSeq(rxOr(a, b), rxOr(b, c))},
		{"()|()", rxOr(rxEmpty(), rxEmpty())},
		{"()()", rxSeq(rxEmpty(), rxEmpty())},
		{"()(()())", rxSeq(rxEmpty(), rxSeq(rxEmpty(), rxEmpty()))},
		{"()*", rxCount(rxEmpty(), 0, -1)},
		{"(()*)*", rxCount(rxCount(rxEmpty(), 0, -1), 0, -1)},
		{"a?", rxCount(a, 0, 1)},
		{"a*", rxCount(a, 0, -1)},
		{"a+", rxCount(a, 1, -1)},
		{"a{0}", rxCount(a, 0, 0)},
		{"a{1}", rxCount(a, 1, 1)},
		{"a{20}", rxCount(a, 20, 20)},
		{"a{2,}", rxCount(a, 2, -1)},
		{"a{20,}", rxCount(a, 20, -1)},
		{"a{0,2}", rxCount(a, 0, 2)},
		{"a{1,2}", rxCount(a, 1, 2)},
		{"a{9,10}", rxCount(a, 9, 10)},
		{"a{19,20}", rxCount(a, 19, 20)},
		{"(ab)?", rxCount(rxSeq(a, b), 0, 1)},
		{"(a|b)+", rxCount(rxOr(a, b), 1, -1)},
		{"(a?){3}", rxCount(rxCount(a, 0, 1), 3, 3)},
		{"ab?c*", rxSeq(a, rxCount(b, 0, 1), rxCount(c, 0, -1))},
		{"a|b?", rxOr(a, rxCount(b, 0, 1))},
		{"(ab)?(b|c){2}", rxSeq(rxCount(rxSeq(a, b), 0, 1), rxCount(rxOr(b, c), 2, 2))},
		{"[ab]", rxRanges(false, 'a', 'a', 'b', 'b')},
		{"[aa]", rxRanges(false, 'a', 'a', 'a', 'a')},
		{"[a-b]", rxRanges(false, 'a', 'b')},
		{"[a-bd-e]", rxRanges(false, 'a', 'b', 'd', 'e')},
		{"[b-ca]", rxRanges(false, 'b', 'c', 'a', 'a')},
		{"[^a]", rxRanges(true, 'a', 'a')},
		{"[^a-b]?", rxCount(rxRanges(true, 'a', 'b'), 0, 1)},
		{"[\\^a]", rxRanges(false, '^', '^', 'a', 'a')},
		{"[^\\^]", rxRanges(true, '^', '^')},
		{"[\\--\\]]", rxRanges(false, '-', ']')},
		{"[\\[-\\\\]", rxRanges(false, '[', '\\')},
		{"[\\t-\\r]", rxRanges(false, 9, 13)},
		{"[^\\t-\\n\\r]", rxRanges(true, 9, 10, 13, 13)},
		{"[.?*+{}()|]", rxRanges(false, '.', '.', '?', '?', '*', '*', '+', '+', '{', '{', '}', '}', '(', '(', ')', ')', '|', '|')},
		{"\\n\\r\\t", rxRow("\n\r\t")},
		{"-^,:", rxRow("-^,:")},
		{"\\.\\\\\\?\\*\\+\\{\\}\\(\\)\\|\\[\\]", rxRow(rxMarks)},
		{"ntdwsDWS", rxRow("ntdwsDWS")},
		{"0{10}", rxCount(rxChar('0'), 10, 10)},
		{"\x00\x7f é€😀", rxRow("\x00\x7f é€😀")},
		{"[\x00-\U0010ffff]", rxRanges(false, 0, 1114111)},
		{"[\ud7ff-\ue000]", rxRanges(false, 55295, 57344)},
		{"[é-ü]", rxRanges(false, 'é', 'ü')},
	} {
		if s := impl.RegexText(r.list); s != r.s {
			t.Errorf("%q is wanted, %q came", r.s, s)
		}
		if list, ok := impl.ReadRegex(r.s); !ok || !sameRx(list, r.list) {
			t.Errorf("%q gave %v %v", r.s, list, ok)
		}
	}
}

// Texts that are not as RegexText writes them.
func TestOtherTexts(t *testing.T) {
	for _, r := range [][2]string{
		{"()", ""}, {"(())", ""}, {"(a)", "a"}, {"((a))", "a"}, {"(ab)c", "abc"}, {"((ab)c)", "abc"}, {"(a|b)|c", "a|b|c"}, {"(ab)|c", "ab|c"}, {"a|(bc)", "a|bc"}, {"(a)(b)", "ab"}, {"(a)*", "a*"}, {"([ab])*", "[ab]*"}, {"(a?)b", "a?b"}, {"(a?)|(b?)", "a?|b?"},
		{"|", "()|()"}, {"||", "()|()|()"}, {"a|", "a|()"}, {"|a", "()|a"}, {"(|)", "()|()"}, {"(|a)b", "(()|a)b"}, {"a||b", "a|()|b"}, {"(a|)*", "(a|())*"}, {"a()", "a()"}, {"a(|)", "a(()|())"},
		{"a{0,1}", "a?"}, {"a{0,}", "a*"}, {"a{1,}", "a+"}, {"a{1,1}", "a{1}"}, {"a{0,0}", "a{0}"}, {"a{20,20}", "a{20}"}, {"(a{2}){2}", "(a{2}){2}"},
		{"[a]", "a"}, {"[a-a]", "a"}, {"[\\-]", "-"}, {"[\\^]", "^"}, {"[.]", "\\."}, {"[\\.]", "\\."}, {"[\\]]", "\\]"}, {"[^a-a]", "[^a]"}, {"[a-ab]", "[ab]"}, {"[\\.-\\?]", "[.-?]"}, {"[\\n]", "\\n"}, {"[\n]", "\\n"}, {"[^\t\r]", "[^\\t\\r]"},
		{"\\-\\^", "-^"}, {"\n\r\t", "\\n\\r\\t"}, {"[\\(\\)\\|\\*\\+\\{\\}]", "[()|*+{}]"},
		{".", "[^\\n\\r]"}, {"\\d", "[0-9]"}, {"\\w", "[0-9A-Z_a-z]"}, {"\\s", "[\\t-\\n\\r ]"}, {"\\D", "[^0-9]"}, {"\\W", "[^0-9A-Z_a-z]"}, {"\\S", "[^\\t-\\n\\r ]"}, {"\\d+.?", "[0-9]+[^\\n\\r]?"}, {"(\\d)", "[0-9]"}, {"a\\db", "a[0-9]b"},
	} {
		list := readRx(t, r[0])
		if s := impl.RegexText(list); s != r[1] || !sameRx(list, readRx(t, r[1])) {
			t.Errorf("%q gave %q, not %q", r[0], s, r[1])
		}
	}
}

func TestTextsThatAreNone(t *testing.T) {
	for _, s := range []string{
		"*", "?", "+", "{", "}", "{1}", "(", ")", "[", "]", "\\", "a{", "a}", "a]", "a[", "a(", "a)", "(a", "((a)", "(a))", "a|*", "|*", "(*)", "(?a)", "()(", "a|)", "(|",
		"a**", "a*?", "a?+", "a+{2}", "a{2}{2}", "a{2}*", "a{1}?",
		"a{}", "a{,}", "a{,1}", "a{1", "a{1,", "a{1,2", "a{1;2}", "a{1,2,3}", "a{ 1}", "a{1 }", "a{1, 2}", "a{-1}", "a{+1}", "a{1,-1}", "a{a}", "a{1,a}", "a{00}", "a{01}", "a{02}", "a{0,01}", "a{1,02}", "a{2,1}", "a{1,0}", "a{20,19}", "a{10,9}", "a{21}", "a{0,21}", "a{21,}", "a{21,22}", "a{99}", "a{100}", "a{020}", "a{1,100}", "a{200}", "a{18446744073709551617}", "a{1١}", "a{１}",
		"[]", "[^]", "[a", "[^a", "[a-", "[a-]", "[-a]", "[-]", "[a-b-c]", "[a--]", "[a-b", "[[]", "[]]", "[]a]", "[a[]", "[a^]", "[^^]", "[^a^]", "[b-a]", "[ab-a]", "[^b-a]", "[\\d]", "[\\w]", "[\\s]", "[\\D]", "[\\W]", "[\\S]", "[a\\d]", "[a-\\d]", "[\\q]", "[\\]", "[a\\", "[a-\\", "[\\a]", "[\\ ]", "[\\é]", "[\r-\n]", "[\\r-\\t]", "[\ue000-\ud7ff]",
		"\\q", "\\a", "\\N", "\\0", "\\ ", "\\é", "\\\n", "a\\", "\\,", "\\/", "\\x41", "\\u0041", "\\p", "\\b",
		"\x80", "a\xff", "[\xc3]", "\\\xe2", "\xed\xa0\x80", "\xc0\xaa", "\xf4\x90\x80\x80",
		"[abcdefghijklm]", "[^abcdefghijklm]", strings.Repeat("a", 61), strings.Repeat("a", 60) + "?*",
		"((((((a{20}){20}){20}){20}){20}){20})", "(((a{0,20}){0,20}){0,5})|", "(((a{0,20}){0,20}){0,5})b",
		strings.Repeat("(", 200) + strings.Repeat(")", 199), strings.Repeat("(", 199) + strings.Repeat(")", 200), strings.Repeat("(", 400), strings.Repeat(")", 400), strings.Repeat("a", 20001), strings.Repeat("(", 20000),
	} {
		refusedRx(t, s)
	}
}

func TestLimitsOfTexts(t *testing.T) {
	within := func(n int, s string) string { return strings.Repeat("(", n) + s + strings.Repeat(")", n) }
	for _, s := range []string{
		within(199, "a"), within(199, "ab"), within(199, "é😀"), within(200, ""), within(133, "a") + strings.Repeat("(())|", 26),
		"[abcdefghijkl]", "[^abcdefghijkl]", "[a-bb-cc-dd-ee-ff-gg-hh-ii-jj-kk-ll-m]", strings.Repeat("a", 60), "(" + strings.Repeat("a", 60) + ")?",
		"((a{0,20}){0,20}){0,5}", "((a{19}){19}){4}", strings.Repeat("(", 118) + "a*" + strings.Repeat(")*", 118),
	} {
		if utf8.RuneCountInString(s) > mostRxChars {
			t.Fatal(s)
		}
		list := readRx(t, s)
		if !impl.RegexOk(list) {
			t.Errorf("%q gave %v", s, list)
		}
	}
	for _, s := range []string{within(199, "abc"), within(199, "[a]"), within(199, "é😀é"), within(200, "a"), strings.Repeat("(", 119) + "a*" + strings.Repeat(")*", 119)} {
		refusedRx(t, s)
	}
}

// A text of over 400 characters is written, but not read.
func TestLongTexts(t *testing.T) {
	one := rxRanges(true, 0x10000, 0x10ffff, 'a', 'b', 'a', 'b', 'a', 'b', 'a', 'b', 'a', 'b', 'a', 'b', 'a', 'b', 'a', 'b', 'a', 'b', 'a', 'b', '[', ']')
	list := one
	for range 59 {
		list = rxSeq(list, one)
	}
	want := strings.Repeat("[^\U00010000-\U0010ffff"+strings.Repeat("a-b", 10)+"\\[-\\]]", 60)
	s := impl.RegexText(list)
	if s != want {
		t.Errorf("%q", s)
	}
	refusedRx(t, s)

	part := rxRanges(false, 'a', 'b', 'a', 'b', 'a', 'b', 'a', 'b', 'a', 'b', 'a', 'b', 'a', 'b', 'a', 'b', 'a', 'a')
	for _, char := range []int64{'x', 'é', 0x10ffff} {
		most := rxOr(part, part, part, part, part, part, part, part, part, part, part, part, part, part, rxRow(strings.Repeat(encode(char), 8)))
		s := impl.RegexText(most)
		if utf8.RuneCountInString(s) != mostRxChars || !sameRx(readRx(t, s), most) {
			t.Errorf("%d characters: %q", utf8.RuneCountInString(s), s)
		}
		more := rxOr(part, part, part, part, part, part, part, part, part, part, part, part, part, part, rxRow(strings.Repeat(encode(char), 9)))
		if s = impl.RegexText(more); utf8.RuneCountInString(s) != mostRxChars+1 {
			t.Errorf("%d characters: %q", utf8.RuneCountInString(s), s)
		}
		refusedRx(t, s)
	}
}

// writeRx is a writer of its own, that puts in what the document allows beside what it must: so a text of other shape comes that says the same.
func (m maker) writeRx(list []impl.RNode, n int64) string {
	node := list[n]
	below := func(n int64, kinds ...int64) string {
		s := m.writeRx(list, n)
		if slices.Contains(kinds, list[n].Kind) || m.Intn(8) == 0 {
			return "(" + s + ")"
		}
		return s
	}
	switch node.Kind {
	case impl.RxEmpty:
		return m.pick("()", "(())")
	case impl.RxClass:
		return m.writeClass(node)
	case impl.RxSeq:
		return below(node.A, impl.RxOr) + below(node.B, impl.RxSeq, impl.RxOr)
	case impl.RxOr:
		return below(node.A) + "|" + below(node.B, impl.RxOr)
	}
	return below(node.A, impl.RxSeq, impl.RxOr, impl.RxCount) + m.writeCount(node.Min, node.Max)
}

func (m maker) writeCount(low, high int64) string {
	from := strconv.FormatInt(low, 10)
	words := []string{"{" + from + "," + strconv.FormatInt(high, 10) + "}"}
	if high == -1 {
		words = []string{"{" + from + ",}"}
	}
	if low == high {
		words = append(words, "{"+from+"}")
	}
	if short, found := map[[2]int64]string{{0, 1}: "?", {0, -1}: "*", {1, -1}: "+"}[[2]int64{low, high}]; found {
		words = append(words, short)
	}
	return m.pick(words...)
}

func (m maker) writeChar(r int64, must string) string {
	s := encode(r)
	if letter, found := map[int64]string{9: "t", 10: "n", 13: "r"}[r]; found {
		return m.pick(s, "\\"+letter)
	}
	switch {
	case strings.Contains(must, s):
		return "\\" + s
	case strings.Contains(rxMarks+inMarks, s):
		return m.pick(s, "\\"+s)
	}
	return s
}

func (m maker) writeClass(n impl.RNode) string {
	for letter, class := range map[string]string{".": ".", "d": "\\d", "D": "\\D", "w": "\\w", "W": "\\W", "s": "\\s", "S": "\\S"} {
		if sameRx([]impl.RNode{n}, letterClass(letter)) && m.Intn(2) == 0 {
			return class
		}
	}
	if len(n.Ranges) == 1 && n.Ranges[0].Low == n.Ranges[0].High && !n.Not && m.Intn(4) > 0 {
		return m.writeChar(n.Ranges[0].Low, rxMarks)
	}
	out := "["
	if n.Not {
		out += "^"
	}
	for _, r := range n.Ranges {
		out += m.writeChar(r.Low, inMarks)
		if r.Low != r.High || m.Intn(4) == 0 {
			out += "-" + m.writeChar(r.High, inMarks)
		}
	}
	return out + "]"
}

func letterClass(letter string) []impl.RNode {
	switch letter {
	case ".":
		return rxRanges(true, 10, 10, 13, 13)
	case "d", "D":
		return rxRanges(letter == "D", 48, 57)
	case "w", "W":
		return rxRanges(letter == "W", 48, 57, 65, 90, 95, 95, 97, 122)
	}
	return rxRanges(letter == "S", 9, 10, 13, 13, 32, 32)
}

// anyChar is one that a text may stumble over.
func (m maker) anyChar() int64 {
	if m.Intn(6) == 0 {
		return edges[m.Intn(len(edges))]
	}
	signs := []rune("abz09_-^ ,:nrtdwsDWS\t\n\r" + rxMarks)
	return int64(signs[m.Intn(len(signs))])
}

func (m maker) anyClass() []impl.RNode {
	switch m.Intn(6) {
	case 0:
		return rxEmpty()
	case 1:
		return letterClass(m.pick(".", "d", "D", "w", "W", "s", "S"))
	case 2:
		return rxChar(m.anyChar())
	}
	var ends []int64
	for range 1 + m.Intn(4) {
		low, high := m.anyChar(), m.anyChar()
		if m.Intn(2) == 0 {
			high = low
		}
		ends = append(ends, min(low, high), max(low, high))
	}
	return rxRanges(m.Intn(3) == 0, ends...)
}

var someCounts = [][2]int64{{0, 1}, {0, -1}, {1, -1}, {0, 0}, {1, 1}, {2, 2}, {2, -1}, {0, 2}, {1, 3}, {3, 4}, {20, 20}, {20, -1}, {0, 20}, {19, 20}}

// rx makes right nodes out of what leaf makes.
func (m maker) rx(leaf func() []impl.RNode) []impl.RNode {
	for {
		if list := m.rxBelow(5, leaf); impl.RegexOk(list) {
			return list
		}
	}
}

func (m maker) rxBelow(deep int, leaf func() []impl.RNode) []impl.RNode {
	if deep == 0 {
		return leaf()
	}
	switch m.Intn(7) {
	case 0:
		return leaf()
	case 1, 2:
		return rxSeq(m.rxBelow(deep-1, leaf), m.rxBelow(deep-1, leaf))
	case 3, 4:
		return rxOr(m.rxBelow(deep-1, leaf), m.rxBelow(deep-1, leaf))
	}
	ends := someCounts[m.Intn(len(someCounts))]
	return rxCount(m.rxBelow(deep-1, leaf), ends[0], ends[1])
}

func TestRightExpressionsComeBack(t *testing.T) {
	m := maker{rand.New(rand.NewSource(6))}
	lists := slices.Collect(func(yield func([]impl.RNode) bool) {
		for _, list := range rightRx() {
			if !yield(list) {
				return
			}
		}
		for range 6000 {
			if !yield(m.rx(m.anyClass)) {
				return
			}
		}
	})
	came := 0
	for _, list := range lists {
		s := impl.RegexText(list)
		if utf8.RuneCountInString(s) > mostRxChars {
			refusedRx(t, s)
			continue
		}
		came++
		if again, ok := impl.ReadRegex(s); !ok || !sameRx(again, list) {
			t.Fatalf("%v: %q gave %v %v", list, s, again, ok)
		}
		other := m.writeRx(list, int64(len(list)-1))
		if utf8.RuneCountInString(other) > mostRxChars {
			refusedRx(t, other)
			continue
		}
		if again, ok := impl.ReadRegex(other); !ok || !sameRx(again, list) {
			t.Fatalf("%v: %q gave %v %v", list, other, again, ok)
		}
	}
	if came < 5000 {
		t.Errorf("only %d came back", came)
	}
}

var (
	wholeClass = regexp.MustCompile(`\[\^?(?:` + inClass + `(?:-` + inClass + `)?)+\]`)
	turned     = regexp.MustCompile(`(` + inClass + `)-(` + inClass + `)`)
	slashed    = regexp.MustCompile(`\\[.\\?*+{}()|\[\]nrt^\-dwsDWS]`)
	counted    = regexp.MustCompile(`x(?:[?*+]|\{(0|[1-9][0-9]?)(?:(,)(0|[1-9][0-9]?)?)?\})`)
	grouped    = regexp.MustCompile(`\([xy|]*\)`)
	reduced    = regexp.MustCompile(`\A[xy|]*\z`)
)

const inClass = `(?:\\[.\\?*+{}()|\[\]nrt^\-]|[^\[\]\-^\\])`

// isExpression takes a text apart by putting x for atoms and y for counted ones, until nothing is left to do. It sees no limits but those of counts.
func isExpression(s string) bool {
	ok := true
	var out strings.Builder
	for s != "" {
		if at := wholeClass.FindStringIndex(s); at != nil && at[0] == 0 {
			for _, pair := range turned.FindAllStringSubmatch(s[1:at[1]-1], -1) {
				ok = ok && charIn(pair[1]) <= charIn(pair[2])
			}
			out.WriteString("x")
			s = s[at[1]:]
		} else if at := slashed.FindStringIndex(s); at != nil && at[0] == 0 {
			out.WriteString("x")
			s = s[at[1]:]
		} else {
			out.WriteByte(s[0]) // signs and digits, which counts need, are sorted out below
			s = s[1:]
		}
	}
	tokens := regexp.MustCompile(`(\{[0-9,]*\})|([^x?*+{}()|\[\]\\])`).ReplaceAllStringFunc(out.String(), func(part string) string {
		if part[0] == '{' {
			return part
		}
		return "x"
	})
	for last := ""; last != tokens; {
		last = tokens
		tokens = counted.ReplaceAllStringFunc(tokens, func(part string) string {
			ends := counted.FindStringSubmatch(part)
			low, _ := strconv.Atoi(ends[1])
			high, err := strconv.Atoi(ends[3])
			ok = ok && low <= 20 && high <= 20 && (err != nil || low <= high)
			return "y"
		})
		tokens = grouped.ReplaceAllString(tokens, "x")
	}
	return ok && reduced.MatchString(tokens)
}

func charIn(s string) rune {
	list := []rune(s)
	if at := strings.IndexRune("nrt", list[len(list)-1]); len(list) > 1 && at >= 0 {
		return []rune("\n\r\t")[at]
	}
	return list[len(list)-1]
}

func TestWhichTextsAreRead(t *testing.T) {
	check := func(s string) {
		list, ok := impl.ReadRegex(s)
		if ok != isExpression(s) {
			t.Fatalf("%q: %v", s, ok)
		}
		if !ok && len(list) != 0 {
			t.Fatalf("%q gave %v", s, list)
		}
		if ok && !sameRx(readRx(t, impl.RegexText(list)), list) {
			t.Fatalf("%q does not come back", s)
		}
	}
	const letters = "ab*(|)[]{}1,^-\\?"
	var each func(s string, more int)
	each = func(s string, more int) {
		check(s)
		for i := 0; more > 0 && i < len(letters); i++ {
			each(s+letters[i:i+1], more-1)
		}
	}
	each("", 4)
	m := maker{rand.New(rand.NewSource(7))}
	for range 40000 {
		s := m.some(6, func() string {
			return m.pick("a", "b", "\\n", "\\d", "\\-", "\\q", "(", ")", "|", "[", "]", "[a-c]", "[^", "-", "^", "{", "}", "{2}", "{1,", "3}", "{0,20}", "{9,8}", "{21}", "{05}", "*", "+?", ".", "é", "\n", ",", "1")
		})
		check(s)
	}
}
