package tests

import (
	"math"
	"slices"
	"strings"
	"testing"

	"loop.example/g00262/impl"
)

const maxBytes = impl.MaxText / 8

func elem(up int64, name string, attrs ...impl.Attr) impl.Item {
	return impl.Item{Up: up, Name: name, Attrs: attrs}
}

func text(up int64, s string) impl.Item {
	return impl.Item{Up: up, Text: s}
}

func attr(name, value string) impl.Attr {
	return impl.Attr{Name: name, Value: value}
}

func sameItems(a, b []impl.Item) bool {
	return slices.EqualFunc(a, b, func(x, y impl.Item) bool {
		return x.Up == y.Up && x.Name == y.Name && x.Text == y.Text && slices.Equal(x.Attrs, y.Attrs)
	})
}

func cloneItems(list []impl.Item) []impl.Item {
	out := slices.Clone(list)
	for i := range out {
		out[i].Attrs = slices.Clone(out[i].Attrs)
	}
	return out
}

// chain is a document in which each of n elements stands below the one ahead of it.
func chain(n int) []impl.Item {
	var list []impl.Item
	for i := range n {
		list = append(list, elem(int64(i)-1, "a"))
	}
	return list
}

// wide is a document with n items: one element and the others right below it.
func wide(n int) []impl.Item {
	list := []impl.Item{elem(-1, "a")}
	for len(list) < n {
		list = append(list, elem(0, "b"))
	}
	return list
}

func manyAttrs(n int) []impl.Attr {
	var attrs []impl.Attr
	for i := range n {
		attrs = append(attrs, attr("x"+string(rune('a'+i)), "v"))
	}
	return attrs
}

func rightDocs() map[string][]impl.Item {
	long := strings.Repeat("n", impl.MaxName)
	return map[string][]impl.Item{
		"one element":        {elem(-1, "a")},
		"a prefix":           {elem(-1, long+":"+long)},
		"kids":               {elem(-1, "a"), elem(0, "b"), elem(1, "c"), elem(0, "d"), elem(3, "e")},
		"up by many":         {elem(-1, "a"), elem(0, "b"), elem(1, "c"), elem(2, "d"), elem(0, "e")},
		"texts":              {elem(-1, "a"), text(0, "x"), elem(0, "b"), text(0, "y")},
		"a text and above":   {elem(-1, "a"), elem(0, "b"), text(1, "x"), text(0, "y")},
		"behind a text":      {elem(-1, "a"), elem(0, "b"), text(1, "x"), elem(1, "c"), elem(0, "d")},
		"blank texts":        {elem(-1, "a"), text(0, " "), elem(0, "b"), text(0, "\t\n\r")},
		"marks in texts":     {elem(-1, "a"), text(0, "]]>&amp;<!-- --></a>\"'")},
		"values":             {elem(-1, "a", attr("b", ""), attr("p:b", "&<>\"'\t\n\r  "), attr("q:b", "é€😀"))},
		"most attributes":    {elem(-1, "a", manyAttrs(impl.MaxAttrs)...)},
		"most items":         wide(impl.MaxItems),
		"deepest":            chain(impl.MaxDeep),
		"deepest text":       append(chain(impl.MaxDeep-1), text(impl.MaxDeep-2, "x")),
		"most bytes":         {elem(-1, "a"), text(0, strings.Repeat("x", maxBytes-1))},
		"most bytes of all":  {elem(-1, "abc", attr("de", "fgh")), text(0, strings.Repeat("é", maxBytes/2-4))},
		"most quotes":        {elem(-1, "a", attr("b", strings.Repeat("\"", maxBytes-2)))},
		"most bytes in name": {elem(-1, "a", attr("b", strings.Repeat("v", maxBytes-42))), elem(0, long)},
	}
}

func wrongDocs() map[string][]impl.Item {
	a := elem(-1, "a")
	long := strings.Repeat("n", impl.MaxName+1)
	return map[string][]impl.Item{
		"no item":                 nil,
		"too many items":          wide(impl.MaxItems + 1),
		"first a text":            {text(-1, "x")},
		"first with Up 0":         {elem(0, "a")},
		"first with Up -2":        {elem(-2, "a")},
		"two firsts":              {a, elem(-1, "b")},
		"a text with Up -1":       {a, text(-1, "x")},
		"Up is the item itself":   {a, elem(1, "b")},
		"Up lies behind":          {a, elem(2, "b"), elem(0, "c")},
		"Up is far off":           {a, elem(math.MaxInt64, "b")},
		"Up is far below":         {a, elem(math.MinInt64, "b")},
		"Up is a text":            {a, text(0, "x"), elem(1, "b")},
		"Up is a text's text":     {a, text(0, "x"), text(1, "y")},
		"Up has ended":            {a, elem(0, "b"), elem(0, "c"), elem(1, "d")},
		"Up ended by a text":      {a, elem(0, "b"), text(0, "x"), elem(1, "d")},
		"too deep":                chain(impl.MaxDeep + 1),
		"a text too deep":         append(chain(impl.MaxDeep), text(impl.MaxDeep-1, "x")),
		"no name's name":          {elem(-1, "1")},
		"a name with two colons":  {elem(-1, "a:b:c")},
		"a name with no prefix":   {elem(-1, ":a")},
		"a name too long":         {elem(-1, long)},
		"an element with a Text":  {{Up: -1, Name: "a", Text: "x"}},
		"too many attributes":     {elem(-1, "a", manyAttrs(impl.MaxAttrs+1)...)},
		"attributes alike":        {elem(-1, "a", attr("x", "1"), attr("y", "1"), attr("x", "2"))},
		"an attribute's name":     {elem(-1, "a", attr("", "1"))},
		"an attribute's colons":   {elem(-1, "a", attr("p:q:r", "1"))},
		"a value that isn't text": {elem(-1, "a", attr("x", "\xff"))},
		"a value not plain":       {elem(-1, "a", attr("x", "\x00"))},
		"an empty text":           {a, text(0, "")},
		"a text not plain":        {a, text(0, "\x1f")},
		"a text of bad bytes":     {a, text(0, "\xed\xa0\x80")},
		"a text with attributes":  {a, {Up: 0, Text: "x", Attrs: []impl.Attr{attr("b", "1")}}},
		"two texts":               {a, text(0, "x"), text(0, "y")},
		"two texts further on":    {a, elem(0, "b"), text(1, "x"), text(1, "y")},
		"too many bytes of text":  {a, text(0, strings.Repeat("x", maxBytes))},
		"too many bytes of value": {elem(-1, "a", attr("b", strings.Repeat("x", maxBytes-1)))},
		"too many bytes in all":   {elem(-1, "abc", attr("de", "fghi")), text(0, strings.Repeat("é", maxBytes/2-4))},
		"too many bytes of names": {elem(-1, "a", attr("b", strings.Repeat("v", maxBytes-41))), elem(0, long[1:])},
		"a text longer than all":  {a, text(0, strings.Repeat("x", impl.MaxText+1))},
	}
}

func TestRightDocumentsComeBack(t *testing.T) {
	for what, list := range rightDocs() {
		if !impl.DocOk(list) {
			t.Errorf("%s: not right", what)
			continue
		}
		s, ok := impl.PrintDoc(list)
		if !ok {
			t.Errorf("%s: not printed", what)
		}
		for _, whole := range []string{s, " \t\r\n" + s + "\n\r ", "<!-- r --> <!---->" + s + "<!--<b>-->\n<!-- & -->\n"} {
			if back, ok := impl.ParseDoc(whole); !ok || !sameItems(back, list) {
				t.Errorf("%s: %.80q gave %v", what, whole, ok)
			}
		}
		kidsAndTexts(t, what, list)
	}
}

// kidsAndTexts holds what KidsOf and TextOf answer against the Ups.
func kidsAndTexts(t *testing.T, what string, list []impl.Item) {
	t.Helper()
	for n := range list {
		var kids []int64
		words := ""
		for i, item := range list {
			if item.Up == int64(n) {
				kids = append(kids, int64(i))
				words += item.Text
			}
		}
		if got := impl.KidsOf(list, int64(n)); !slices.Equal(got, kids) {
			t.Errorf("%s: kids of %d: %v", what, n, got)
		}
		got, ok := impl.TextOf(list, int64(n))
		if element := list[n].Name != ""; ok != element || element && got != words || !element && got != "" {
			t.Errorf("%s: text of %d: %q %v", what, n, got, ok)
		}
		if up := list[n].Up; n > 0 && !slices.Contains(impl.KidsOf(list, up), int64(n)) {
			t.Errorf("%s: %d is no kid of %d", what, n, up)
		}
	}
	for _, n := range []int64{-1, -2, int64(len(list)), math.MinInt64, math.MaxInt64} {
		if kids := impl.KidsOf(list, n); len(kids) != 0 {
			t.Errorf("%s: kids of %d: %v", what, n, kids)
		}
		if got, ok := impl.TextOf(list, n); ok || got != "" {
			t.Errorf("%s: text of %d: %q", what, n, got)
		}
	}
}

func TestWrongDocuments(t *testing.T) {
	for what, list := range wrongDocs() {
		if impl.DocOk(list) {
			t.Errorf("%s: right", what)
		}
		if s, ok := impl.PrintDoc(list); ok || s != "" {
			t.Errorf("%s: printed %.80q", what, s)
		}
		for n := int64(-1); n < 4; n++ {
			if kids := impl.KidsOf(list, n); len(kids) != 0 {
				t.Errorf("%s: kids %v", what, kids)
			}
			if got, ok := impl.TextOf(list, n); ok || got != "" {
				t.Errorf("%s: text %q", what, got)
			}
		}
	}
}

// liesBelow tells whether the Ups lead from item n to item top.
func liesBelow(list []impl.Item, n, top int64) bool {
	for n > top {
		n = list[n].Up
	}
	return n == top
}

// shapeRight asks that all between an item and its Up lie below that Up, too: so the items stand in the order of a text.
func shapeRight(list []impl.Item) bool {
	for i, item := range list {
		n := int64(i)
		if n == 0 {
			if item.Up != -1 || item.Name == "" {
				return false
			}
			continue
		}
		if item.Up < 0 || item.Up >= n || list[item.Up].Name == "" {
			return false
		}
		for between := item.Up + 1; between < n; between++ {
			if !liesBelow(list, between, item.Up) {
				return false
			}
		}
		if item.Name == "" && list[n-1].Name == "" && item.Up == list[n-1].Up {
			return false
		}
	}
	return len(list) > 0
}

func TestEachSmallShape(t *testing.T) {
	var grow func(list []impl.Item)
	grow = func(list []impl.Item) {
		if impl.DocOk(list) != shapeRight(list) {
			t.Fatal(list)
		}
		if len(list) == 4 {
			return
		}
		for up := int64(-2); up < 5; up++ {
			grow(append(slices.Clone(list), elem(up, "a")))
			grow(append(slices.Clone(list), text(up, "x")))
		}
	}
	grow(nil)
}

func TestPrintDoc(t *testing.T) {
	for _, c := range []struct {
		list []impl.Item
		want string
	}{
		{[]impl.Item{elem(-1, "a")}, "<a/>"},
		{[]impl.Item{elem(-1, "p:a", attr("b", ""))}, "<p:a b=\"\"/>"},
		{[]impl.Item{elem(-1, "a"), elem(0, "b"), elem(1, "c"), elem(2, "d"), elem(1, "e"), elem(0, "f")}, "<a><b><c><d/></c><e/></b><f/></a>"},
		{[]impl.Item{elem(-1, "a"), elem(0, "b"), text(1, "x"), text(0, "y")}, "<a><b>x</b>y</a>"},
		{[]impl.Item{elem(-1, "a"), text(0, "&<>\"'\t\n\r")}, "<a>&amp;&lt;&gt;\"'\t\n&#13;</a>"},
		{[]impl.Item{elem(-1, "a", attr("b", "&<>\"'\t\n\r"), attr("p:c", "2")), text(0, "x")}, "<a b=\"&amp;&lt;&gt;&quot;'&#9;&#10;&#13;\" p:c=\"2\">x</a>"},
		{[]impl.Item{elem(-1, "a"), text(0, "]]>")}, "<a>]]&gt;</a>"},
	} {
		if s, ok := impl.PrintDoc(c.list); !ok || s != c.want {
			t.Errorf("%q, not %q", s, c.want)
		}
	}
}

func TestEscape(t *testing.T) {
	for _, c := range []struct{ s, plain, attr string }{
		{"", "", ""},
		{"a'é€😀", "a'é€😀", "a'é€😀"},
		{"&<>\r", "&amp;&lt;&gt;&#13;", "&amp;&lt;&gt;&#13;"},
		{"\"\t\n ", "\"\t\n ", "&quot;&#9;&#10; "},
		{"&amp;", "&amp;amp;", "&amp;amp;"},
	} {
		if s, ok := impl.Escape(c.s, false); !ok || s != c.plain {
			t.Errorf("%q %q", c.s, s)
		}
		if s, ok := impl.Escape(c.s, true); !ok || s != c.attr {
			t.Errorf("%q %q", c.s, s)
		}
	}
}

func TestWhatIsEscapedComesBack(t *testing.T) {
	comesBack := func(s string) {
		for _, attr := range []bool{false, true} {
			out, ok := impl.Escape(s, attr)
			back, ok2 := impl.Unescape(out)
			if !ok || !ok2 || back != s || attr && strings.ContainsAny(out, "<>\"\r\t\n") || strings.ContainsAny(out, "<>\r") {
				t.Fatalf("%q %q %q", s, out, back)
			}
		}
	}
	for r := int64(0); r <= 1114111; r++ {
		if impl.CharOk(r) && (r < 3000 || r%97 == 0 || slices.Contains(edges, r)) {
			comesBack("a" + encode(r) + "b")
		}
	}
	for _, s := range []string{"", "&&", "&#13;", "]]>", strings.Repeat("\"", maxBytes), strings.Repeat("é", maxBytes/2)} {
		comesBack(s)
	}
}

func TestEscapeRefuses(t *testing.T) {
	for _, s := range []string{strings.Repeat("a", maxBytes+1), strings.Repeat("é", maxBytes/2) + "a", "\x00", "a\x0b", "\xff", "\xed\xa0\x80", "\ufffe", "\uffff", strings.Repeat("a", impl.MaxText+1)} {
		for _, attr := range []bool{false, true} {
			if out, ok := impl.Escape(s, attr); ok || out != "" {
				t.Errorf("%.20q %.20q", s, out)
			}
		}
	}
}

func TestUnescape(t *testing.T) {
	most := strings.Repeat("a", impl.MaxText-5)
	for _, c := range []struct{ s, want string }{
		{"", ""}, {"a > \"'b\t\n\r]]>;", "a > \"'b\t\n\r]]>;"},
		{"&amp;&lt;&gt;&quot;&apos;", "&<>\"'"}, {"&amp;amp;", "&amp;"}, {"&#38;lt;", "&lt;"}, {"&#60;", "<"}, {"&amp;;", "&;"},
		{"&#9;&#10;&#13;&#32;", "\t\n\r "}, {"&#55295;&#57344;&#65533;&#65536;", "\ud7ff\ue000\ufffd\U00010000"},
		{"&#1114111;", "\U0010ffff"}, {"&#0000065;", "A"}, {"&#065;", "A"}, {"&#233;&#8364;&#128512;", "é€😀"},
		{most + "&amp;", most + "&"},
	} {
		if s, ok := impl.Unescape(c.s); !ok || s != c.want {
			t.Errorf("%.40q %.40q %v", c.s, s, ok)
		}
	}
}

func TestUnescapeRefuses(t *testing.T) {
	for _, s := range []string{
		"&", "&;", "a&", "&amp", "&amp &lt;", "& amp;", "&amp ;", "&Amp;", "&AMP;", "&x;", "&nbsp;", "&amplt;", "&&amp;", "&a&amp;",
		"<", "a<b", "&lt;<", "&#;", "&#", "&#a;", "&#x41;", "&#-65;", "&#+65;", "&# 65;", "&#65 ;", "&#6_5;", "&#6a;", "&65;", "&#١;",
		"&#0;", "&#8;", "&#11;", "&#31;", "&#55296;", "&#57343;", "&#65534;", "&#65535;", "&#1114112;", "&#9999999;", "&#00000065;", "&#18446744073709551681;",
		"\x00", "\xff", "a\x7f\x1f", "\ufffe", strings.Repeat("a", impl.MaxText+1), strings.Repeat("&amp;", impl.MaxText/5) + "a",
	} {
		if out, ok := impl.Unescape(s); ok || out != "" {
			t.Errorf("%.40q %.40q", s, out)
		}
	}
}

func TestXmlLeavesItsArguments(t *testing.T) {
	attrs := []impl.Attr{attr("b", "1"), attr("c", "2"), attr("spare", "room")}
	room := []impl.Item{elem(-1, "a", attrs[:2]...), text(0, "x"), elem(0, "d"), elem(77, "spare")}
	kept, keptAttrs := cloneItems(room), slices.Clone(attrs)
	list := room[:3]
	one, _ := impl.PrintDoc(list)
	two, _ := impl.PrintDoc(list)
	kids := impl.KidsOf(list, 0)
	kids[0] = 99
	if impl.DocOk(list); one != two || impl.KidsOf(list, 0)[0] != 1 || !sameItems(room, kept) || !slices.Equal(attrs, keptAttrs) {
		t.Error(one, two, room, attrs)
	}
	read, _ := impl.ParseDoc("<a b='1'><c d='2'/><e f='3'/></a>")
	again, _ := impl.ParseDoc("<a b='1'><c d='2'/><e f='3'/></a>")
	want := cloneItems(again)
	for i := range read {
		_ = append(read[i].Attrs, attr("z", "z"))
		read[i].Attrs[0].Value = "z"
	}
	read[0].Name = "z"
	if !sameItems(again, want) || read[1].Attrs[0].Name != "d" || read[2].Attrs[0].Name != "f" {
		t.Error(read, again)
	}
}
