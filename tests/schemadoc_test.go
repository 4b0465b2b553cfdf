package tests

import (
	"math/rand"
	"regexp"
	"slices"
	"strconv"
	"strings"
	"testing"

	"loop.example/g00262/impl"
)

var kindWords = []string{"", "text", "token", "name", "bool", "decimal", "integer", "date", "list", "union", "based"}

// written is an attribute in a text, or nothing where it says nothing.
func written(name, value string) string {
	if value == "" {
		return ""
	}
	marks := strings.NewReplacer("&", "&amp;", "<", "&lt;", ">", "&gt;", "\"", "&quot;", "\t", "&#9;", "\n", "&#10;", "\r", "&#13;")
	return " " + name + "=\"" + marks.Replace(value) + "\""
}

func writtenNumber(name string, n int64) string {
	if n < 0 {
		return ""
	}
	return written(name, strconv.Itoa(int(n)))
}

func writtenFlag(name string, flag bool) string {
	return written(name, map[bool]string{true: "true"}[flag])
}

func tagged(tag, attrs, below string) string {
	if below == "" {
		return "<" + tag + attrs + "/>"
	}
	return "<" + tag + attrs + ">" + below + "</" + tag + ">"
}

// schemaText writes the text of a right schema's document straight away.
func schemaText(s impl.Schema) string {
	out := ""
	for _, one := range s.Simples {
		base, members, values := "", []string(nil), ""
		if one.Kind == impl.SmList || one.Kind == impl.SmBased {
			base = s.Simples[one.Base].Name
		}
		for _, n := range one.Members {
			members = append(members, s.Simples[n].Name)
		}
		for _, text := range one.Enum {
			is := written("is", text)
			if text == "" {
				is = " is=\"\""
			}
			values += "<value" + is + "/>"
		}
		attrs := written("name", one.Name) + written("kind", kindWords[one.Kind]) + written("base", base) + written("members", strings.Join(members, " "))
		attrs += writtenNumber("minlong", one.MinLong) + writtenNumber("maxlong", one.MaxLong) + written("low", one.Low) + written("high", one.High) + written("pattern", one.Pattern)
		out += tagged("simple", attrs, values)
	}
	for _, one := range s.Complexes {
		below := ""
		for _, a := range one.Attrs {
			below += tagged("attribute", written("name", a.Name)+written("type", s.Simples[a.Type].Name)+writtenFlag("required", a.Required)+written("default", a.Default), "")
		}
		out += tagged("complex", written("name", one.Name)+written("model", impl.ModelText(one.Model))+writtenFlag("mixed", one.Mixed), below)
	}
	for _, d := range s.Decls {
		name := ""
		if d.Kind == impl.TpSimple {
			name = s.Simples[d.Type].Name
		} else {
			name = s.Complexes[d.Type].Name
		}
		out += tagged("element", written("name", d.Name)+written("type", name)+writtenFlag("nillable", d.Nillable)+written("default", d.Default), "")
	}
	return tagged("schema", "", out)
}

// docAndBack holds the document of a right schema against its text, and reads it.
func docAndBack(t *testing.T, what string, s impl.Schema) {
	t.Helper()
	want, right := impl.ParseDoc(schemaText(s))
	list, ok := impl.SchemaDoc(s)
	if ok != right || !sameItems(list, want) {
		t.Errorf("%.200q has the document %v, %v, not %v", what, list, ok, want)
	}
	back, read := impl.ReadSchema(want)
	if read != right || right && !sameSchema(back, s) {
		t.Errorf("%.200q is read as %+v, %v", what, back, read)
	}
}

func refusedSchema(t *testing.T, what string, list []impl.Item) {
	t.Helper()
	if s, ok := impl.ReadSchema(list); ok || !sameSchema(s, impl.Schema{}) {
		t.Errorf("%.200q is read as %+v, %v", what, s, ok)
	}
}

// wholeText has each element, with all of its attributes that one Kind or another may have.
const wholeText = `<schema>` +
	`<simple name="i" kind="integer" low="-5" high="5"/>` +
	`<simple name="w" kind="token" minlong="0" maxlong="9" pattern="[a-z]*"><value is=""/><value is="one"/><value is="two"/></simple>` +
	`<simple name="l" kind="list" base="i" minlong="1" maxlong="3"/>` +
	`<simple name="u" kind="union" members="w i w"/>` +
	`<simple name="b" kind="based" base="w" maxlong="5"/>` +
	`<complex name="t" model="(a,b*)" mixed="true"><attribute name="x" type="i" required="true"/><attribute name="y" type="w" default="one"/></complex>` +
	`<complex name="e"/>` +
	`<element name="a" type="i" nillable="true" default="3"/>` +
	`<element name="b" type="t" nillable="true"/>` +
	`<element name="c" type="e"/>` +
	`</schema>`

func wholeSchema() impl.Schema {
	s := impl.Schema{
		Simples: []impl.Simple{simple("i", impl.SmInteger), simple("w", impl.SmToken), leaning("l", impl.SmList, 0), union("u", 1, 0, 1), leaning("b", impl.SmBased, 1)},
		Complexes: []impl.Complex{
			{Name: "t", Model: ptSeq(0, ptElem("a", 0), ptElem("b", impl.OcStar)), Mixed: true, Attrs: []impl.AttrDecl{{Name: "x", Type: 0, Required: true}, {Name: "y", Type: 1, Default: "one"}}},
			{Name: "e"},
		},
		Decls: []impl.Decl{{Name: "a", Kind: impl.TpSimple, Nillable: true, Default: "3"}, {Name: "b", Kind: impl.TpComplex, Nillable: true}, complexDecl("c", 1)},
	}
	s.Simples[0].Low, s.Simples[0].High = "-5", "5"
	s.Simples[1].MinLong, s.Simples[1].MaxLong, s.Simples[1].Pattern, s.Simples[1].Enum = 0, 9, "[a-z]*", []string{"", "one", "two"}
	s.Simples[2].MinLong, s.Simples[2].MaxLong = 1, 3
	s.Simples[4].MaxLong = 5
	return s
}

func TestAWholeSchema(t *testing.T) {
	s := wholeSchema()
	rightSchema(t, "the whole", s)
	list, ok := impl.SchemaDoc(s)
	if text, _ := impl.PrintDoc(list); !ok || text != wholeText {
		t.Errorf("%s, %v", text, ok)
	}
	if back, ok := impl.ReadSchema(parsed(t, wholeText)); !ok || !sameSchema(back, s) {
		t.Errorf("%+v, %v", back, ok)
	}
	if list, ok := impl.SchemaDoc(impl.Schema{}); !ok || !sameItems(list, []impl.Item{elem(-1, "schema")}) {
		t.Error(list, ok)
	}
	if s, ok := impl.ReadSchema([]impl.Item{elem(-1, "schema")}); !ok || !sameSchema(s, impl.Schema{}) {
		t.Error(s, ok)
	}
}

// TestWhatIsLeftOut takes out and puts in what the whole schema says.
func TestWhatIsLeftOut(t *testing.T) {
	for _, c := range []struct{ old, new string }{
		{` low="-5"`, ``}, {` high="5"`, ``}, {` low="-5" high="5"`, ``}, {` minlong="0"`, ``}, {` maxlong="9"`, ``}, {` pattern="[a-z]*"`, ``},
		{` minlong="1" maxlong="3"`, ``}, {` minlong="1"`, ` minlong="3"`}, {` maxlong="5"`, ``}, {` maxlong="5"`, ` maxlong="1000"`}, {` members="w i w"`, ` members="i"`},
		{` members="w i w"`, ` members="i i i i"`}, {`<value is=""/>`, ``}, {`<value is="one"/>`, `<value is="one"/><value is="one"/>`}, {` model="(a,b*)"`, ``}, {` mixed="true"`, ``}, {` required="true"`, ``}, {` default="one"`, ``},
		{` nillable="true" default="3"`, ``}, {` nillable="true" default="3"`, ` default="3"`}, {` default="3"`, ``}, {` default="3"`, ` default=" 03&#10;"`}, {`type="t" nillable="true"`, `type="t"`},
		{`<complex name="e"/>`, `<complex name="e" model="()"/>`}, {`<complex name="e"/>`, `<complex name="e" mixed="true"/>`}, {`<complex name="e"/>`, `<complex name="e" model="(#)" mixed="true"/>`},
		{` low="-5"`, ` low="-05"`}, {` low="-5"`, ` low=" -5 "`}, {`<element name="c" type="e"/>`, ``}, {`type="e"`, `type="u"`}, {`type="e"`, `type="t"`}, {`<simple name="u" kind="union" members="w i w"/>`, ``},
		{`pattern="[a-z]*"`, `pattern="&lt;?|[&quot;&amp;&#9;a-z]*"`},
	} {
		text := strings.Replace(wholeText, c.old, c.new, 1)
		s, ok := impl.ReadSchema(parsed(t, text))
		if !ok || !impl.SchemaOk(s) || text == wholeText {
			t.Errorf("%s for %s: %v", c.new, c.old, ok)
			continue
		}
		list, _ := impl.SchemaDoc(s)
		if again, _ := impl.PrintDoc(list); again != text {
			t.Errorf("%s for %s is written %s", c.new, c.old, again)
		}
		want, _ := readBy(t, text)
		if !sameSchema(s, want) {
			t.Errorf("%s for %s is read as %+v", c.new, c.old, s)
		}
	}
}

func TestDocumentsThatAreNoSchema(t *testing.T) {
	for _, c := range []struct{ old, new string }{
		// left out that must be there
		{` name="i"`, ``}, {` kind="integer"`, ``}, {` base="i"`, ``}, {` base="w"`, ``}, {` members="w i w"`, ``}, {`<value is="one"/>`, `<value/>`}, {`<complex name="e"/>`, `<complex/>`},
		{`<attribute name="x" type="i"`, `<attribute type="i"`}, {`<attribute name="x" type="i"`, `<attribute name="x"`}, {`<element name="a" type="i"`, `<element type="i"`}, {`<element name="a" type="i"`, `<element name="a"`}, {`<element name="c" type="e"/>`, `<element/>`},
		{`<simple name="i" kind="integer" low="-5" high="5"/>`, ``}, {`<complex name="e"/>`, ``},
		// out of order
		{`name="i" kind="integer"`, `kind="integer" name="i"`}, {`kind="list" base="i"`, `base="i" kind="list"`}, {`low="-5" high="5"`, `high="5" low="-5"`}, {`minlong="0" maxlong="9"`, `maxlong="9" minlong="0"`}, {`maxlong="9" pattern="[a-z]*"`, `pattern="[a-z]*" maxlong="9"`},
		{`kind="union" members="w i w"`, `members="w i w" kind="union"`}, {`model="(a,b*)" mixed="true"`, `mixed="true" model="(a,b*)"`}, {`type="i" required="true"`, `required="true" type="i"`}, {`type="w" default="one"`, `default="one" type="w"`}, {`nillable="true" default="3"`, `default="3" nillable="true"`}, {`name="c" type="e"`, `type="e" name="c"`},
		{`<complex name="e"/><element name="a" type="i" nillable="true" default="3"/>`, `<element name="a" type="i" nillable="true" default="3"/><complex name="e"/>`},
		{`<simple name="i" kind="integer" low="-5" high="5"/>`, `<complex name="first"/><simple name="i" kind="integer" low="-5" high="5"/>`},
		{`<element name="c" type="e"/>`, `<element name="c" type="e"/><simple name="z" kind="text"/>`}, {`<element name="c" type="e"/>`, `<element name="c" type="e"/><complex name="z"/>`},
		{`<schema>`, `<schema><element name="z" type="i"/>`}, {`<schema>`, `<schema><attribute name="z" type="i"/>`}, {`<schema>`, `<schema><value is="one"/>`},
		// of no meaning there
		{`<schema>`, `<schema name="s">`}, {`<schema>`, `<schema xmlns="u">`}, {`kind="integer"`, `kind="integer" more="1"`}, {`kind="integer"`, `kind="integer" p:low="1"`}, {`kind="integer"`, `kind="integer" base="i"`}, {`kind="token"`, `kind="token" base="i"`}, {`kind="token"`, `kind="token" members="i"`}, {`kind="list" base="i"`, `kind="list" base="i" members="i"`},
		{`kind="union"`, `kind="union" base="i"`}, {`members="w i w"`, `members="w i w" minlong="1"`}, {`members="w i w"`, `members="w i w" pattern="a"`}, {`<value is="one"/>`, `<value is="one" name="i"/>`}, {`<value is="one"/>`, `<value is="one">x</value>`}, {`<value is="one"/>`, `<value is="one"><value is="two"/></value>`},
		{`<complex name="e"/>`, `<complex name="e" type="i"/>`}, {`<complex name="e"/>`, `<complex name="e"><value is="x"/></complex>`}, {`<complex name="e"/>`, `<complex name="e"><element name="z" type="i"/></complex>`}, {`type="i" required="true"`, `type="i" required="true" nillable="true"`}, {`type="w" default="one"`, `type="w" nillable="true" default="one"`},
		{`type="e"/>`, `type="e" required="true"/>`}, {`type="e"/>`, `type="e" mixed="true"/>`}, {`type="e"/>`, `type="e"><element name="z" type="i"/></element>`}, {`type="e"/>`, `type="e" default="x"/>`}, {`<simple name="u"`, `<other/><simple name="u"`}, {`<simple name="u"`, `<Simple name="q" kind="text"/><simple name="u"`}, {`<simple name="u"`, `<p:simple name="q" kind="text"/><simple name="u"`}, {`<simple name="u"`, `<schema/><simple name="u"`},
		// with a value that would be left out
		{`kind="integer"`, `kind="integer" base=""`}, {`kind="integer"`, `kind="integer" members=""`}, {`low="-5"`, `low=""`}, {`high="5"`, `high=""`}, {`minlong="0"`, `minlong=""`}, {`minlong="0"`, `minlong="-1"`}, {`maxlong="9"`, `maxlong="-1"`}, {`pattern="[a-z]*"`, `pattern=""`}, {`model="(a,b*)"`, `model=""`},
		{`mixed="true"`, `mixed=""`}, {`mixed="true"`, `mixed="false"`}, {`required="true"`, `required="false"`}, {`nillable="true"`, `nillable="false"`}, {`default="one"`, `default=""`}, {`default="3"`, `default=""`}, {`kind="integer"`, `kind=""`}, {`name="i"`, `name=""`}, {`base="i"`, `base=""`}, {`members="w i w"`, `members=""`}, {`type="e"`, `type=""`},
		// numbers and flags written in another way
		{`minlong="0"`, `minlong="00"`}, {`minlong="0"`, `minlong="-0"`}, {`minlong="0"`, `minlong="+0"`}, {`maxlong="9"`, `maxlong="09"`}, {`maxlong="9"`, `maxlong="+9"`}, {`maxlong="9"`, `maxlong=" 9"`}, {`maxlong="9"`, `maxlong="9 "`}, {`maxlong="9"`, `maxlong="9.0"`}, {`maxlong="9"`, `maxlong="0x9"`}, {`maxlong="9"`, `maxlong="1_0"`}, {`maxlong="9"`, `maxlong="x"`},
		{`maxlong="9"`, `maxlong="1001"`}, {`minlong="0"`, `minlong="10"`}, {`minlong="0"`, `minlong="-2"`}, {`maxlong="9"`, `maxlong="9223372036854775807"`}, {`maxlong="9"`, `maxlong="9223372036854775808"`}, {`minlong="0"`, `minlong="-9223372036854775808"`}, {`maxlong="9"`, `maxlong="18446744073709551617"`},
		{`mixed="true"`, `mixed="1"`}, {`mixed="true"`, `mixed="True"`}, {`mixed="true"`, `mixed=" true"`}, {`mixed="true"`, `mixed="yes"`}, {`required="true"`, `required="1"`}, {`required="true"`, `required="TRUE"`}, {`nillable="true"`, `nillable="0"`}, {`nillable="true"`, `nillable="true "`},
		// names and words
		{`kind="integer"`, `kind="Integer"`}, {`kind="integer"`, `kind="int"`}, {`kind="integer"`, `kind=" integer"`}, {`kind="integer"`, `kind="6"`}, {`kind="token"`, `kind="base"`}, {`base="i"`, `base="z"`}, {`base="i"`, `base="l"`}, {`base="i"`, `base="u"`}, {`base="i"`, `base="t"`}, {`base="i"`, `base=" i"`}, {`base="i"`, `base="0"`}, {`base="i"`, `base="i w"`},
		{`members="w i w"`, `members="w  i w"`}, {`members="w i w"`, `members=" w i w"`}, {`members="w i w"`, `members="w i w "`}, {`members="w i w"`, `members="w&#9;i w"`}, {`members="w i w"`, `members="w z"`}, {`members="w i w"`, `members="w u"`}, {`members="w i w"`, `members="w l"`}, {`members="w i w"`, `members="w b"`}, {`members="w i w"`, `members="w i w i w"`}, {`members="w i w"`, `members="w,i"`},
		{`<complex name="e"/>`, `<complex name="i"/>`}, {`<complex name="e"/>`, `<complex name="t"/>`}, {`name="c"`, `name="a"`}, {`name="c"`, `name="p:c"`}, {`name="u"`, `name="i"`}, {`type="e"`, `type="z"`}, {`type="e"`, `type=" e"`}, {`type="e"`, `type="a"`}, {`type="i" required`, `type="t" required`}, {`type="i" required`, `type="z" required`}, {`name="y"`, `name="x"`}, {`name="y"`, `name="xmlns"`},
		{`model="(a,b*)"`, `model="(a, b*)"`}, {`model="(a,b*)"`, `model="a"`}, {`model="(a,b*)"`, `model="(a,z)"`}, {`model="(a,b*)"`, `model="(a*,a)"`}, {`model="(a,b*)"`, `model="(a|b"`}, {`model="(a,b*)"`, `model=" (a,b*)"`}, {`model="(a,b*)"`, `model="(a|b*)|"`},
		{`required="true"`, `required="true" default="1"`}, {`default="one"`, `default="three"`}, {`default="3"`, `default="6"`}, {`default="3"`, `default="x"`}, {`low="-5"`, `low="6"`}, {`low="-5"`, `low="-5.0"`}, {`low="-5"`, `low="x"`}, {`pattern="[a-z]*"`, `pattern="("`},
		// texts between, and another first element
		{`<schema>`, `<schema> `}, {`<schema>`, "<schema>\n"}, {`<complex name="e"/>`, ` <complex name="e"/>`}, {`</schema>`, "\n</schema>"}, {`<value is="one"/>`, ` <value is="one"/>`}, {`</complex>`, `x</complex>`}, {`<complex name="e"/>`, `<complex name="e"> </complex>`}, {`type="e"/>`, `type="e"> </element>`},
	} {
		text := strings.Replace(wholeText, c.old, c.new, 1)
		list, ok := impl.ParseDoc(text)
		if !ok || text == wholeText {
			t.Errorf("%s for %s is no document", c.new, c.old)
		}
		refusedSchema(t, c.new+" for "+c.old, list)
	}
	for _, text := range []string{`<other/>`, `<Schema/>`, `<p:schema xmlns:p="u"/>`, `<schema> </schema>`, `<schema><schema/></schema>`, `<simple name="a" kind="text"/>`, `<element name="a" type="b"/>`} {
		refusedSchema(t, text, parsed(t, text))
	}
	refusedSchema(t, "the whole in another", parsed(t, "<schema>"+wholeText+"</schema>"))
	refusedSchema(t, "the whole under another name", parsed(t, strings.ReplaceAll(wholeText, "schema>", "schemas>")))
}

func TestSchemasOfWrongDocuments(t *testing.T) {
	for what, list := range wrongDocs() {
		refusedSchema(t, what, list)
	}
	for what, list := range rightDocs() {
		refusedSchema(t, what, list)
	}
	whole := parsed(t, wholeText)
	for _, n := range append([]int64{-1, 1, 2, 20, 21}, farOff...) {
		list := cloneItems(whole)
		list[len(list)-1].Up = n
		refusedSchema(t, "a last Up", list)
		list = cloneItems(whole)
		list[0].Up = n
		if n != -1 {
			refusedSchema(t, "a first Up", list)
		}
	}
	twice := cloneItems(whole)
	twice[1].Attrs = append(twice[1].Attrs, twice[1].Attrs[0])
	refusedSchema(t, "an attribute twice", twice)
	twice = cloneItems(whole)
	twice[1].Attrs = slices.Insert(twice[1].Attrs, 3, attr("low", "-4"))
	refusedSchema(t, "an attribute twice, with two values", twice)
	strange := cloneItems(whole)
	strange[4].Attrs[0].Value = "\x00"
	refusedSchema(t, "a value that is not plain", strange)
	texts := cloneItems(whole)
	texts[1].Text = "x"
	refusedSchema(t, "an element with a Text", texts)
	for i := range len(whole) + 1 {
		list := whole[:i]
		words, _ := impl.PrintDoc(list)
		want, right := readBy(t, words)
		if s, ok := impl.ReadSchema(list); ok != right || !sameSchema(s, want) {
			t.Errorf("the first %d items are read as %+v, %v", i, s, ok)
		}
		if i > 0 {
			refusedSchema(t, "a text", slices.Insert(cloneItems(whole), i, text(0, " ")))
		}
	}
}

// enumSchema has thirty types, with so many values in all.
func enumSchema(values int) impl.Schema {
	var s impl.Schema
	for _, name := range namesFrom("s", 30) {
		one := simple(name, impl.SmText)
		for len(one.Enum) < impl.MaxEnum && values > 0 {
			one.Enum = append(one.Enum, "")
			values--
		}
		s.Simples = append(s.Simples, one)
	}
	return s
}

func TestDocumentsOfSchemasAtTheLimits(t *testing.T) {
	most := impl.MaxItems - 31
	for values, want := range map[int]bool{0: true, most - 1: true, most: true, most + 1: false, 12 * 30: false} {
		s := enumSchema(values)
		list, ok := impl.SchemaDoc(s)
		if !impl.SchemaOk(s) || ok != want || ok != (len(list) == 31+values) || !ok && len(list) != 0 {
			t.Errorf("%d values: %d items, %v", values, len(list), ok)
		}
		rightSchema(t, "values", s)
	}
	// The other bytes: those of schema, of simple with name s and kind text, of element with name a and type s, and of default.
	const others = 6 + 19 + 17 + 7
	for long, want := range map[int]bool{1: true, maxBytes - others - 1: true, maxBytes - others: true, maxBytes - others + 1: false, impl.MaxText: false} {
		s := impl.Schema{Simples: []impl.Simple{simple("s", impl.SmText)}, Decls: []impl.Decl{{Name: "a", Kind: impl.TpSimple, Default: strings.Repeat("\"", long)}}}
		if list, ok := impl.SchemaDoc(s); !impl.SchemaOk(s) || ok != want || !ok && len(list) != 0 {
			t.Errorf("a default of %d bytes: %d items, %v", long, len(list), ok)
		}
		if long < impl.MaxText/7 {
			rightSchema(t, "a default", s)
		}
	}
	// An expression may name what stands in no document.
	pattern := impl.Schema{Simples: []impl.Simple{simple("s", impl.SmText)}}
	pattern.Simples[0].Pattern = "\x01|a"
	if list, ok := impl.SchemaDoc(pattern); !impl.SchemaOk(pattern) || ok || len(list) != 0 {
		t.Error(list, ok)
	}
}

// The forms of the elements, as the document's text has them.
const oneValue = `"([^"]*)"`

var (
	simpleForm  = regexp.MustCompile(`^<simple name=` + oneValue + ` kind="(text|token|name|bool|decimal|integer|date|list|union|based)"(?: base=` + oneValue + `)?(?: members="([^" ]+(?: [^" ]+)*)")?(?: minlong="(0|[1-9][0-9]*)")?(?: maxlong="(0|[1-9][0-9]*)")?(?: low="([^"]+)")?(?: high="([^"]+)")?(?: pattern="([^"]+)")?(?:/>|>((?:<value is=` + oneValue + `/>)+)</simple>)`)
	valueForm   = regexp.MustCompile(`^<value is=` + oneValue + `/>`)
	complexForm = regexp.MustCompile(`^<complex name=` + oneValue + `(?: model="([^"]+)")?( mixed="true")?(?:/>|>((?:<attribute [^>]*/>)+)</complex>)`)
	attrForm    = regexp.MustCompile(`^<attribute name=` + oneValue + ` type=` + oneValue + `( required="true")?(?: default="([^"]+)")?/>`)
	elementForm = regexp.MustCompile(`^<element name=` + oneValue + ` type=` + oneValue + `( nillable="true")?(?: default="([^"]+)")?/>`)
)

// takeAll goes through what a form takes, one behind the other, and answers what is left.
func takeAll(form *regexp.Regexp, s string, look func(parts []string)) string {
	for {
		parts := form.FindStringSubmatch(s)
		if parts == nil {
			return s
		}
		s = s[len(parts[0]):]
		for i := range parts {
			if plainPart, ok := impl.Unescape(parts[i]); ok {
				parts[i] = plainPart
			}
		}
		look(parts)
	}
}

func numberOr(s string) int64 {
	if s == "" {
		return -1
	}
	if n, err := strconv.ParseInt(s, 10, 64); err == nil {
		return n
	}
	return -2
}

// readBy reads a document's text by the forms, and asks whether what it read is right.
func readBy(t *testing.T, s string) (impl.Schema, bool) {
	t.Helper()
	if s == "<schema/>" {
		return impl.Schema{}, true
	}
	var out impl.Schema
	if !strings.HasPrefix(s, "<schema>") {
		return impl.Schema{}, false
	}
	simples, complexes, fits := map[string]int64{}, map[string]int64{}, true
	placeIn := func(places map[string]int64, name string) int64 {
		n, found := places[name]
		fits = fits && found
		return n
	}
	rest := takeAll(simpleForm, s[len("<schema>"):], func(parts []string) {
		one := impl.Simple{Name: parts[1], Kind: int64(slices.Index(kindWords, parts[2])), MinLong: numberOr(parts[5]), MaxLong: numberOr(parts[6]), Low: parts[7], High: parts[8], Pattern: parts[9]}
		leans := one.Kind == impl.SmList || one.Kind == impl.SmBased
		fits = fits && leans == strings.Contains(parts[0], " base=\"") && (one.Kind == impl.SmUnion) == (parts[4] != "")
		if leans {
			one.Base = placeIn(simples, parts[3])
		}
		for _, name := range strings.Fields(parts[4]) {
			one.Members = append(one.Members, placeIn(simples, name))
		}
		takeAll(valueForm, parts[10], func(value []string) { one.Enum = append(one.Enum, value[1]) })
		simples[one.Name] = int64(len(out.Simples))
		out.Simples = append(out.Simples, one)
	})
	rest = takeAll(complexForm, rest, func(parts []string) {
		one := impl.Complex{Name: parts[1], Mixed: parts[3] != ""}
		if parts[2] != "" {
			model, ok := impl.ReadModel(parts[2])
			one.Model, fits = model, fits && ok
		}
		left := takeAll(attrForm, parts[4], func(a []string) {
			one.Attrs = append(one.Attrs, impl.AttrDecl{Name: a[1], Type: placeIn(simples, a[2]), Required: a[3] != "", Default: a[4]})
		})
		fits = fits && left == ""
		complexes[one.Name] = int64(len(out.Complexes))
		out.Complexes = append(out.Complexes, one)
	})
	rest = takeAll(elementForm, rest, func(parts []string) {
		d := impl.Decl{Name: parts[1], Kind: impl.TpSimple, Nillable: parts[3] != "", Default: parts[4]}
		if place, found := complexes[parts[2]]; found {
			d.Kind, d.Type = impl.TpComplex, place
		} else {
			d.Type = placeIn(simples, parts[2])
		}
		out.Decls = append(out.Decls, d)
	})
	if !fits || rest != "</schema>" || !schemaRight(out) {
		return impl.Schema{}, false
	}
	return out, true
}

// bentDoc changes one thing of a document.
func (m maker) bentDoc(list []impl.Item) []impl.Item {
	list = cloneItems(list)
	n := m.Intn(len(list))
	item := &list[n]
	value := m.pick("", "true", "false", "0", "1", "-1", "01", "+1", "1001", "x", "x0", "t0", "t1", "c0", "c1", "a", "b", "text", "list", "union", "based", "integer", "t0 t1", "()", "(a)", "(#)", "[a-z]*")
	name := m.pick("name", "kind", "base", "members", "minlong", "maxlong", "low", "high", "pattern", "is", "model", "mixed", "type", "required", "default", "nillable", "p:name")
	switch m.Intn(10) {
	case 0:
		if len(item.Attrs) > 0 {
			i := m.Intn(len(item.Attrs))
			item.Attrs = slices.Delete(item.Attrs, i, i+1)
		}
	case 1, 2, 3:
		if len(item.Attrs) > 0 {
			item.Attrs[m.Intn(len(item.Attrs))].Value = value
		}
	case 4:
		item.Attrs = slices.Insert(item.Attrs, m.Intn(len(item.Attrs)+1), attr(name, value))
	case 5:
		if len(item.Attrs) > 1 {
			i, j := m.Intn(len(item.Attrs)), m.Intn(len(item.Attrs))
			item.Attrs[i], item.Attrs[j] = item.Attrs[j], item.Attrs[i]
		}
	case 6:
		item.Name = m.pick("schema", "simple", "value", "complex", "attribute", "element", "other")
	case 7:
		list = slices.Delete(list, n, n+1)
	case 8:
		other := m.Intn(len(list))
		list[n], list[other] = list[other], list[n]
	case 9:
		list = slices.Insert(list, n+1, elem(max(0, item.Up), m.pick("simple", "value", "complex", "attribute", "element"), attr("name", "q"), attr(m.pick("kind", "type"), value)))
	}
	return list
}

func TestDocumentsAgainstTheForms(t *testing.T) {
	m := maker{rand.New(rand.NewSource(103))}
	counts := [2]int{}
	for counts[0]+counts[1] < 20000 {
		list, ok := impl.SchemaDoc(m.schema())
		if !ok {
			continue
		}
		for range 8 {
			bent := m.bentDoc(list)
			if m.Intn(4) == 0 && len(bent) > 0 {
				bent = m.bentDoc(bent)
			}
			text, _ := impl.PrintDoc(bent)
			want, right := readBy(t, text)
			s, ok := impl.ReadSchema(bent)
			if ok != right || !sameSchema(s, want) {
				t.Fatalf("%.200q is read as %+v, %v", text, s, ok)
			}
			if ok {
				rightSchema(t, text, s)
				counts[1]++
			} else {
				counts[0]++
			}
		}
	}
	if counts[0] < 3000 || counts[1] < 3000 {
		t.Errorf("%d refused, %d read", counts[0], counts[1])
	}
}

func TestSchemasShareNoMemory(t *testing.T) {
	list := parsed(t, wholeText)
	for i := range list {
		list[i].Attrs = append(list[i].Attrs, attr("behind", ""))[:len(list[i].Attrs)]
	}
	list = append(list, elem(0, "behind"))[:len(list)]
	kept := cloneItems(list[:len(list)+1])
	s, _ := impl.ReadSchema(list)
	if other, ok := impl.ReadSchema(list); !ok || !sameSchema(other, s) {
		t.Error("two readings")
	}
	if !sameItems(list[:len(list)+1], kept) {
		t.Error("the document was changed")
	}
	for i := range list {
		if list[i].Attrs[:len(list[i].Attrs)+1][len(list[i].Attrs)] != attr("behind", "") {
			t.Errorf("item %d was changed behind its attributes", i)
		}
	}
	doc, _ := impl.SchemaDoc(s)
	want := cloneItems(doc)
	for i := range doc {
		for n := range doc[i].Attrs[:cap(doc[i].Attrs)] {
			doc[i].Attrs[:cap(doc[i].Attrs)][n] = attr("changed", "")
		}
		doc[i].Attrs, want[i].Attrs = nil, nil
		if !sameItems(doc, want) {
			t.Fatalf("item %d shares memory", i)
		}
	}
	if !sameSchema(s, wholeSchema()) {
		t.Error("the schema was changed by its document")
	}
	s.Simples[3].Members[0], s.Simples[1].Enum[0], s.Complexes[0].Attrs[0].Name, s.Complexes[0].Model[0].Name = 7, "changed", "changed", "changed"
	if again, ok := impl.ReadSchema(list); !ok || !sameSchema(again, wholeSchema()) {
		t.Error("the schema is kept")
	}
}
