package tests

import (
	"fmt"
	"math/rand"
	"strings"
	"testing"

	"loop.example/g00262/impl"
)

func TestParseDoc(t *testing.T) {
	a := elem(-1, "a")
	for _, c := range []struct {
		s    string
		want []impl.Item
	}{
		{"<a/>", []impl.Item{a}}, {"<a></a>", []impl.Item{a}}, {"<a />", []impl.Item{a}}, {"<a\n\t></a\r\n >", []impl.Item{a}}, {"<a >\n</a>", []impl.Item{a, text(0, "\n")}},
		{"<p:a></p:a>", []impl.Item{elem(-1, "p:a")}},
		{"\r\r\n\t <a/> \r", []impl.Item{a}},
		{"<!----><a/><!---->", []impl.Item{a}}, {"<!-- <a> & ]]> - - -->\n<!--->--><a/>", []impl.Item{a}}, {"<!-- r ---><a/>", []impl.Item{a}},
		{"<a><!-- r --></a>", []impl.Item{a}},
		{"<a>p<!-- r -->q</a>", []impl.Item{a, text(0, "pq")}}, {"<a><!-- r -->p<!----><!-- s -->q<!-- t --></a>", []impl.Item{a, text(0, "pq")}},
		{"<a>p<!----><b/><!---->q</a>", []impl.Item{a, text(0, "p"), elem(0, "b"), text(0, "q")}},
		{"<a><b>p</b><!---->q</a>", []impl.Item{a, elem(0, "b"), text(1, "p"), text(0, "q")}},
		{"<a>]]<!---->></a>", []impl.Item{a, text(0, "]]>")}}, {"<a>]<!---->]></a>", []impl.Item{a, text(0, "]]>")}}, {"<a>]]&gt;]] >]>></a>", []impl.Item{a, text(0, "]]>]] >]>>")}},
		{"<a b=']]>'/>", []impl.Item{elem(-1, "a", attr("b", "]]>"))}},
		{"<a>x\r\ny\rz\n\rw&#13;&#13;\n</a>", []impl.Item{a, text(0, "x\ny\nz\n\nw\r\r\n")}},
		{"<a>\r<!---->\n</a>", []impl.Item{a, text(0, "\n\n")}},
		{"<a b='x\r\ny\rz\n\tw'/>", []impl.Item{elem(-1, "a", attr("b", "x y z  w"))}},
		{"<a b='&#9;&#10;&#13;&#13;\n'/>", []impl.Item{elem(-1, "a", attr("b", "\t\n\r\r "))}},
		{"<a b='\"&apos;' c=\"'&quot;>\"/>", []impl.Item{elem(-1, "a", attr("b", "\"'"), attr("c", "'\">"))}},
		{"<a b \n=\r'' p:b\t= \"1\"\n/>", []impl.Item{elem(-1, "a", attr("b", ""), attr("p:b", "1"))}},
		{"<a b='<'/>", nil}, {"<a b='&lt;'/>", []impl.Item{elem(-1, "a", attr("b", "<"))}},
		{"<a>&lt;b/&gt;<b/></a>", []impl.Item{a, text(0, "<b/>"), elem(0, "b")}},
		{"<a><a><a/></a></a>", chain(3)},
	} {
		list, ok := impl.ParseDoc(c.s)
		if ok != (c.want != nil) || !sameItems(list, c.want) {
			t.Errorf("%q gave %v %v", c.s, list, ok)
		}
	}
}

func TestParseDocRefuses(t *testing.T) {
	for _, s := range []string{
		"", " ", "x", "<", "<a", "<a ", "<a/", "<a>", "<a><", "<a></", "<a></a", "<a></a ", "<a>x", "<a><b/>", "<a><b></a></b>", "</a>", "<a/></a>", "<a></a></a>",
		"<a/><a/>", "<a/>x", "x<a/>", "&#32;<a/>", "<a/>&#32;", "<!-- r -->", "<!-- r", "<a/><!-- r", "<a/><!-- r --", "<a><!-- r </a>", "\ufeff<a/>", "\v<a/>",
		"< a/>", "<a / >", "<a/ >", "<a></ a>", "<a></a b='1'>", "<a></b>", "<a></ab>", "<ab></a>", "<a></A>", "<p:a></a>", "<a></a/>", "<>x</>", "</>", "<></>",
		"<1/>", "<:a/>", "<a:/>", "<a:b:c/>", "<é/>", "<a!/>", "<" + strings.Repeat("a", impl.MaxName+1) + "/>", "<a\u00a0/>",
		"<a b/>", "<a b=/>", "<a b=1/>", "<a ='1'/>", "<a b='1/>", "<a b=\"1'/>", "<a b'1'/>", "<a b=='1'/>", "<a b= = '1'/>", "<a 'b'='1'/>", "<a b='1''/>",
		"<a b='1'c='2'/>", "<ab='1'/>", "<a b='1' b='1'/>", "<a p:b='1' c='2' p:b='3'/>", "<a b='&'/>", "<a b='&x;'/>", "<a b='&#0;'/>", "<a b='1' c/>", "<a , b='1'/>", "<a p:q:b='1'/>", "<a b='<!-- -->'/>", "<a <!-- --> b='1'/>", "<a b='1'<!-- -->/>", "<a><b</a>",
		"<a>]]></a>", "<a>x]]>y</a>", "<a>]]]></a>", "<a>]]<!---->]]></a>", "<a>&am<!---->p;</a>", "<a>&</a>", "<a>&amp</a>", "<a>&x;</a>", "<a>&#0;</a>", "<a>&#x41;</a>",
		"<!-- -- --><a/>", "<a/><!-- -- -->", "<a><!-- -- --></a>", "<a><!-----></a", "<!--->", "<!---><a/>", "<!--a------><a/>", "<!- - r --><a/>", "<! -- r --><a/>",
		"<?xml?><a/>", "<?x?><a/>", "<!DOCTYPE a><a/>", "<a><![CDATA[x]]></a>", "<a><?x?></a>", "<a><!x></a>",
		"<a>\x01</a>", "<a>\xff</a>", "<a>\ufffe</a>", "<a b='\x00'/>", "<!--\x02--><a/>", "<!--\xed\xa0\x80--><a/>", "<a/>\x00",
	} {
		if list, ok := impl.ParseDoc(s); ok || len(list) != 0 {
			t.Errorf("%q gave %v", s, list)
		}
	}
}

func TestParseDocLimits(t *testing.T) {
	nested := func(n int) string { return strings.Repeat("<a>", n) + strings.Repeat("</a>", n) }
	many := func(n int) string { return "<a>" + strings.Repeat("<b/>", n-1) + "</a>" }
	attrs := func(n int) string {
		s := "<a"
		for i := range n {
			s += fmt.Sprintf(" x%d=''", i)
		}
		return s + "/>"
	}
	words := func(n int) string { return "<a>" + strings.Repeat("x", n-1) + "</a>" }
	value := func(n int) string { return "<a b='" + strings.Repeat("&#065;", n-2) + "'/>" }
	bytes := func(n int) string { return "<a/>" + strings.Repeat(" ", n-4) }
	ends := func(n int) string { return "<a/>" + strings.Repeat("\r\n", (n-4)/2) + strings.Repeat(" ", n%2) }
	for what, c := range map[string]struct {
		doc  func(int) string
		most int
	}{"deep": {nested, impl.MaxDeep}, "items": {many, impl.MaxItems}, "attributes": {attrs, impl.MaxAttrs}, "text": {words, maxBytes}, "value": {value, maxBytes}, "bytes": {bytes, impl.MaxText}, "line ends": {ends, impl.MaxText}} {
		if list, ok := impl.ParseDoc(c.doc(c.most)); !ok || !impl.DocOk(list) {
			t.Errorf("%s: refused", what)
		}
		if list, ok := impl.ParseDoc(c.doc(c.most + 1)); ok || len(list) != 0 {
			t.Errorf("%s: taken", what)
		}
	}
	if _, ok := impl.ParseDoc("<a>" + strings.Repeat("<b>x</b>", 99) + "</a>"); !ok {
		t.Error("199 items")
	}
	if _, ok := impl.ParseDoc("<a>" + strings.Repeat("<b>x</b>", 100) + "</a>"); ok {
		t.Error("201 items")
	}
	if _, ok := impl.ParseDoc(nested(impl.MaxText / 7)); ok {
		t.Error("very deep")
	}
	deepText := func(n int) string { return strings.Repeat("<a>", n) + "x" + strings.Repeat("</a>", n) }
	if _, ok := impl.ParseDoc(deepText(impl.MaxDeep - 1)); !ok {
		t.Error("a text as deep as may be")
	}
	if _, ok := impl.ParseDoc(deepText(impl.MaxDeep)); ok {
		t.Error("a text too deep")
	}
}

// A maker makes documents, and writes them in any of the spellings that may be read.
type maker struct{ *rand.Rand }

func (m maker) pick(words ...string) string { return words[m.Intn(len(words))] }

func (m maker) some(n int, one func() string) string {
	s := ""
	for range m.Intn(n + 1) {
		s += one()
	}
	return s
}

func (m maker) words() string {
	return m.some(9, func() string {
		return m.pick("a", "b", " ", "\t", "\n", "\r", "&", "<", ">", "\"", "'", "]", "]]>", "-", "--", ";", "é", "€", "😀")
	})
}

func (m maker) name() string { return m.pick("a", "b", "_c.1-", "p:a", "p:b", "Q:z9") }

func (m maker) doc() []impl.Item {
	var list []impl.Item
	above := []int64{-1}
	for range 1 + m.Intn(25) {
		n := int64(len(list))
		item := impl.Item{Up: above[m.Intn(len(above))]}
		if s := m.words(); n > 0 && s != "" && m.Intn(2) == 0 {
			item.Text = s
			if last := list[n-1]; last.Name == "" && last.Up == item.Up {
				continue
			}
		} else {
			item.Name = m.name()
			for range m.Intn(3) {
				item.Attrs = append(item.Attrs, attr(fmt.Sprint("x", len(item.Attrs)), m.words()))
			}
		}
		list = append(list, item)
		above = nil
		if item.Name != "" && len(list) > 0 && m.depth(list, n) < impl.MaxDeep-1 {
			above = append(above, n)
		}
		for up := item.Up; up != -1; up = list[up].Up {
			above = append(above, up)
		}
		if len(above) == 0 {
			break
		}
	}
	return list
}

func (m maker) depth(list []impl.Item, n int64) int {
	d := 0
	for list[n].Up != -1 {
		n = list[n].Up
		d++
	}
	return d
}

func (m maker) blank() string { return m.pick(" ", "\t", "\n", "\r", "\r\n") }

func (m maker) blanks() string { return m.some(2, m.blank) }

func (m maker) remark() string {
	return "<!--" + m.pick("", " ", "-", " r ", "<b>", " & ]]> ", "->", "\r\n") + "-->"
}

func (m maker) around() string {
	return m.blanks() + m.some(2, func() string { return m.remark() + m.blanks() })
}

func (m maker) reference(r rune) string {
	if named := map[rune]string{'&': "&amp;", '<': "&lt;", '>': "&gt;", '"': "&quot;", '\'': "&apos;"}[r]; named != "" && m.Intn(2) == 0 {
		return named
	}
	return fmt.Sprintf("&#%0*d;", 1+m.Intn(7), r)
}

func (m maker) valueText(value, mark string) string {
	s := ""
	for _, r := range value {
		switch {
		case strings.ContainsRune("&<\t\n\r"+mark, r) || m.Intn(4) == 0:
			s += m.reference(r)
		case r == ' ' && !strings.HasSuffix(s, "\r"):
			s += m.blank()
		default:
			s += string(r)
		}
	}
	return mark + s + mark
}

func (m maker) textText(words string) string {
	s := ""
	for _, r := range words {
		if m.Intn(6) == 0 {
			s += m.remark()
		}
		switch {
		case strings.ContainsRune("&<>\r", r) || m.Intn(4) == 0:
			s += m.reference(r)
		case r == '\n' && !strings.HasSuffix(s, "\r"):
			s += m.pick("\n", "\r", "\r\n")
		case r == '\n':
			s += "\r\n"
		default:
			s += string(r)
		}
	}
	return s + m.some(1, m.remark)
}

func (m maker) tag(item impl.Item) string {
	s := "<" + item.Name
	for _, a := range item.Attrs {
		s += m.blank() + m.blanks() + a.Name + m.blanks() + "=" + m.blanks() + m.valueText(a.Value, m.pick("\"", "'"))
	}
	return s + m.blanks()
}

func (m maker) spell(list []impl.Item, n int) string {
	if list[n].Name == "" {
		return m.textText(list[n].Text)
	}
	below := m.some(1, m.remark)
	for i := range list {
		if list[i].Up == int64(n) {
			below += m.spell(list, i) + m.some(1, m.remark)
		}
	}
	if below == "" && m.Intn(2) == 0 {
		return m.tag(list[n]) + "/>"
	}
	return m.tag(list[n]) + ">" + below + "</" + list[n].Name + m.blanks() + ">"
}

func TestEachSpellingIsRead(t *testing.T) {
	m := maker{rand.New(rand.NewSource(1))}
	for range 4000 {
		list := m.doc()
		if !impl.DocOk(list) {
			t.Fatalf("not right: %v", list)
		}
		printed, ok := impl.PrintDoc(list)
		if back, ok2 := impl.ParseDoc(printed); !ok || !ok2 || !sameItems(back, list) {
			t.Fatalf("%q of %v gave %v", printed, list, back)
		}
		s := m.around() + m.spell(list, 0) + m.around()
		if back, ok := impl.ParseDoc(s); !ok || !sameItems(back, list) {
			t.Fatalf("%q gave %v, not %v", s, back, list)
		}
		kidsAndTexts(t, s, list)
	}
}

func TestWhatIsReadIsRight(t *testing.T) {
	m := maker{rand.New(rand.NewSource(2))}
	taken := 0
	for range 20000 {
		b := []byte(m.spell(m.doc(), 0))
		for range 1 + m.Intn(3) {
			at := m.Intn(len(b))
			put := m.pick("", "<", ">", "/", "=", "'", "\"", " ", "&", ";", "#", "-", "!", "]", ":", "a", "1", "\r", "\n", "\x01", "\xff")
			b = []byte(string(b[:at]) + put + string(b[at+m.Intn(2):]) + " ")
		}
		list, ok := impl.ParseDoc(string(b))
		if !ok && len(list) != 0 || ok && !impl.DocOk(list) {
			t.Fatalf("%q gave %v %v", b, list, ok)
		}
		if !ok {
			continue
		}
		taken++
		s, _ := impl.PrintDoc(list)
		if back, ok := impl.ParseDoc(s); !ok || !sameItems(back, list) {
			t.Fatalf("%q gave %v", s, back)
		}
	}
	if taken < 1000 {
		t.Error("too few were read:", taken)
	}
}
