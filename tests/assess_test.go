package tests

import (
	"fmt"
	"math/rand"
	"slices"
	"strings"
	"testing"

	"loop.example/g00262/impl"
)

// The schema of most tests here. The places of its declarations: a 0, b 1, c 2, d 3, e 4, f 5, g 6, h 7, i 8, j 9, k 10, l 11, m 12, n 13.
const houseText = `<schema>` +
	`<simple name="int" kind="integer"/>` +
	`<simple name="word" kind="token"/>` +
	`<simple name="text" kind="text"/>` +
	`<simple name="small" kind="based" base="int" low="0" high="9"/>` +
	`<simple name="smalls" kind="list" base="small" minlong="1" maxlong="3"/>` +
	`<simple name="some" kind="union" members="int word"/>` +
	`<complex name="t" model="(a,b*)"><attribute name="x" type="int" required="true"/><attribute name="y" type="word" default="one"/><attribute name="z" type="smalls" default="1"/></complex>` +
	`<complex name="bare"/>` +
	`<complex name="prose" mixed="true"/>` +
	`<complex name="any" model="(#*)" mixed="true"/>` +
	`<complex name="may" model="(a?,b?)"><attribute name="nil" type="int"/><attribute name="xsi" type="int" default="1"/></complex>` +
	`<complex name="none" model="()"/>` +
	`<element name="a" type="int" nillable="true"/>` +
	`<element name="b" type="word" default="two"/>` +
	`<element name="c" type="t" nillable="true"/>` +
	`<element name="d" type="bare"/>` +
	`<element name="e" type="prose"/>` +
	`<element name="f" type="any"/>` +
	`<element name="g" type="may" nillable="true"/>` +
	`<element name="h" type="text"/>` +
	`<element name="i" type="int" nillable="true" default=" 07 "/>` +
	`<element name="j" type="smalls"/>` +
	`<element name="k" type="none"/>` +
	`<element name="l" type="word" default=" "/>` +
	`<element name="m" type="some" default="+1"/>` +
	`<element name="n" type="text" default="&#9;x&#10;"/>` +
	`</schema>`

// mostTold is how many names takesRow can be asked about.
const mostTold = 60

func house(t *testing.T) impl.Schema {
	t.Helper()
	s, ok := impl.ReadSchema(parsed(t, houseText))
	if !ok || !schemaRight(s) {
		t.Fatal("the schema is refused")
	}
	return s
}

func attrIn(attrs []impl.Attr, name string) (string, bool) {
	for _, a := range attrs {
		if a.Name == name {
			return a.Value, true
		}
	}
	return "", false
}

// attrsBy is what chapter 12 asks of the attributes of an element.
func attrsBy(s impl.Schema, attrs []impl.Attr, decl impl.Decl) bool {
	declared := map[string]impl.AttrDecl{}
	if decl.Kind == impl.TpComplex {
		for _, a := range s.Complexes[decl.Type].Attrs {
			declared[a.Name] = a
			if _, there := attrIn(attrs, a.Name); a.Required && !there {
				return false
			}
		}
	}
	for _, a := range attrs {
		if a.Name == "xmlns" || strings.HasPrefix(a.Name, "xmlns:") {
			continue
		}
		if a.Name == "xsi:nil" {
			if _, says := kindValue(impl.SmBool, a.Value); !says || !decl.Nillable {
				return false
			}
			continue
		}
		d, known := declared[a.Name]
		if !known || !hasDefault(s.Simples, d.Type, a.Value) {
			return false
		}
	}
	return true
}

// markBy is the mark of one item by chapter 12's words, of what is right.
func markBy(s impl.Schema, list []impl.Item, n int) impl.Mark {
	mark := impl.Mark{Good: true, Decl: -1}
	if list[n].Name == "" {
		return mark
	}
	mark.Decl = int64(slices.IndexFunc(s.Decls, func(d impl.Decl) bool { return d.Name == list[n].Name }))
	if mark.Decl == -1 {
		return impl.Mark{Decl: -1}
	}
	decl := s.Decls[mark.Decl]
	var names []string
	words, below := "", 0
	for _, item := range list {
		if item.Up == int64(n) {
			below++
			words += item.Text
			if item.Name != "" {
				names = append(names, item.Name)
			}
		}
	}
	value, there := attrIn(list[n].Attrs, "xsi:nil")
	says, _ := kindValue(impl.SmBool, value)
	mark.Nil = there && says == "true" && decl.Nillable
	mark.Good = attrsBy(s, list[n].Attrs, decl)
	switch {
	case mark.Nil:
		mark.Good = mark.Good && below == 0
	case decl.Kind == impl.TpSimple:
		if below == 0 && decl.Default != "" {
			words, mark.Given = decl.Default, true
		}
		value, _, has := valueIn(s.Simples, decl.Type, words)
		mark.Value = value
		mark.Good = mark.Good && has && len(names) == 0
	default:
		c := s.Complexes[decl.Type]
		takes := len(names) == 0
		if len(c.Model) > 0 && len(names) <= mostTold {
			takes = takesRow(c.Model, names)
		} else if len(c.Model) > 0 {
			takes = impl.Accepts(c.Model, names)
		}
		mark.Good = mark.Good && takes && (c.Mixed || strings.Trim(words, " \t\n\r") == "")
	}
	return mark
}

func marksBy(s impl.Schema, list []impl.Item) ([]impl.Mark, int64) {
	if !schemaRight(s) {
		return nil, impl.AsSchema
	}
	if !impl.DocOk(list) {
		return nil, impl.AsDoc
	}
	var marks []impl.Mark
	code := int64(impl.AsValid)
	for n := range list {
		marks = append(marks, markBy(s, list, n))
		if !marks[n].Good {
			code = impl.AsInvalid
		}
	}
	return marks, code
}

// assessed holds Assess and ElementGood against the chapter's words.
func assessed(t *testing.T, s impl.Schema, list []impl.Item) ([]impl.Mark, int64) {
	t.Helper()
	marks, code := impl.Assess(s, list)
	want, wantCode := marksBy(s, list)
	if code != wantCode || len(marks) != len(want) {
		words, _ := impl.PrintDoc(list)
		t.Fatalf("%s by %+v: %d marks, %d, not %d, %d", words, s, len(marks), code, len(want), wantCode)
	}
	for n := range marks {
		if marks[n] != want[n] {
			words, _ := impl.PrintDoc(list)
			t.Fatalf("%s by %+v: item %d is marked %+v, not %+v", words, s, n, marks[n], want[n])
		}
	}
	for n := -2; n < len(list)+3; n++ {
		good := n >= 0 && n < len(want) && want[n].Good
		if impl.ElementGood(s, list, int64(n)) != good {
			words, _ := impl.PrintDoc(list)
			t.Fatalf("%s: item %d is not told as %v", words, n, good)
		}
	}
	return marks, code
}

// markWords tells all fields of a mark.
func markWords(mark impl.Mark) string {
	letters := ""
	for i, flag := range []bool{mark.Good, mark.Nil, mark.Given} {
		letters += map[bool]string{true: "gnd"[i : i+1], false: "-"}[flag]
	}
	return fmt.Sprintf("%s %d %s", letters, mark.Decl, mark.Value)
}

// marked asks for the marks of the document, one behind the other.
func marked(t *testing.T, s impl.Schema, doc string, want ...string) {
	t.Helper()
	marks, code := assessed(t, s, parsed(t, doc))
	var got []string
	valid := true
	for _, mark := range marks {
		got = append(got, markWords(mark))
		valid = valid && mark.Good
	}
	if !slices.Equal(got, want) || (code == impl.AsValid) != valid || (code == impl.AsInvalid) == valid {
		t.Errorf("%s: %d, %q, not %q", doc, code, got, want)
	}
}

func TestMarksOfOrdinaryDocuments(t *testing.T) {
	s := house(t)
	marked(t, s, "<c x='1'> <a> 07 </a><b/><b> x  y </b></c>", "g-- 2 ", "g-- -1 ", "g-- 0 7", "g-- -1 ", "g-d 1 two", "g-- 1 x y", "g-- -1 ")
	marked(t, s, "<c x='+1' y='' z=' 1 2\t3 '><a>-0</a></c>", "g-- 2 ", "g-- 0 0", "g-- -1 ")
	marked(t, s, "<c x='q'><a>x</a><b/></c>", "--- 2 ", "--- 0 ", "g-- -1 ", "g-d 1 two")
	marked(t, s, "<f>x<c x='1'><a>1</a></c>y<d/></f>", "g-- 5 ", "g-- -1 ", "g-- 2 ", "g-- 0 1", "g-- -1 ", "g-- -1 ", "g-- 3 ")
	// What is not good below an element, or above it, says nothing of it.
	marked(t, s, "<f><f q='1'><f><d>x</d></f></f></f>", "g-- 5 ", "--- 5 ", "g-- 5 ", "--- 3 ", "g-- -1 ")
}

func TestElementsThatAreNotDeclared(t *testing.T) {
	s := house(t)
	marked(t, s, "<q/>", "--- -1 ")
	marked(t, s, "<A/>", "--- -1 ")
	marked(t, s, "<p:a>1</p:a>", "--- -1 ", "g-- -1 ")
	marked(t, s, "<a:a xmlns:a=''>1</a:a>", "--- -1 ", "g-- -1 ")
	marked(t, s, "<q xsi:nil='true' x='1'><a>1</a>x<b/></q>", "--- -1 ", "g-- 0 1", "g-- -1 ", "g-- -1 ", "g-d 1 two")
	marked(t, s, "<f><q/><p:a/><a>1</a></f>", "g-- 5 ", "--- -1 ", "--- -1 ", "g-- 0 1", "g-- -1 ")
	marked(t, s, "<g><q/></g>", "--- 6 ", "--- -1 ")
	marked(t, s, "<a>1<q>2</q></a>", "--- 0 1", "g-- -1 ", "--- -1 ", "g-- -1 ")
	// The names of types, and of attributes, declare no element.
	marked(t, s, "<t x='1'><int>1</int><x/></t>", "--- -1 ", "--- -1 ", "g-- -1 ", "--- -1 ")
}

func TestSchemasWithoutDeclarations(t *testing.T) {
	for _, s := range []impl.Schema{{}, {Decls: []impl.Decl{}}, {Simples: oneOfEach(), Complexes: []impl.Complex{{Name: "a"}}}} {
		marked(t, s, "<a/>", "--- -1 ")
		marked(t, s, "<a xsi:nil='1' xmlns='u'>x<b/></a>", "--- -1 ", "g-- -1 ", "--- -1 ")
	}
}

func TestWhatIsNotRight(t *testing.T) {
	right, list := house(t), parsed(t, "<a>1</a>")
	wrong := impl.Schema{Decls: []impl.Decl{{}}}
	for _, s := range []impl.Schema{wrong, {Complexes: []impl.Complex{{}}}, {Simples: []impl.Simple{{}}}, {Decls: []impl.Decl{{Name: "a", Kind: 7}}}} {
		for _, list := range [][]impl.Item{list, nil, {elem(-1, "1")}} {
			refusedAssess(t, s, list, impl.AsSchema)
		}
	}
	for what, list := range wrongDocs() {
		refusedAssess(t, right, list, impl.AsDoc)
		refusedAssess(t, impl.Schema{}, list, impl.AsDoc)
		refusedAssess(t, wrong, list, impl.AsSchema)
		if t.Failed() {
			t.Fatal(what)
		}
	}
}

func refusedAssess(t *testing.T, s impl.Schema, list []impl.Item, want int64) {
	t.Helper()
	marks, code := assessed(t, s, list)
	if code != want || len(marks) != 0 {
		t.Errorf("%.300v: %v, %d", list, marks, code)
	}
	if filled, ok := impl.Filled(s, list); ok || len(filled) != 0 {
		t.Errorf("%.300v is filled", list)
	}
	for _, n := range append([]int64{-1, 0, 1}, farOff...) {
		if impl.ElementGood(s, list, n) {
			t.Errorf("%.300v: item %d is good", list, n)
		}
	}
}

func TestPlacesOfItems(t *testing.T) {
	s, list := house(t), parsed(t, "<f>x<q/><b/></f>")
	good := map[int64]bool{0: true, 1: true, 3: true}
	for _, n := range append([]int64{-3, -2, -1, 0, 1, 2, 3, 4, 5, 199, 200, 256, 257}, farOff...) {
		if impl.ElementGood(s, list, n) != good[n] {
			t.Errorf("item %d", n)
		}
	}
}

func TestAttributesThatAreDeclared(t *testing.T) {
	s := house(t)
	below := "<a>1</a></c>"
	for attrs, good := range map[string]bool{
		"x='1'":                          true,
		"x=' 007 '":                      true,
		"x='1' y='a' z='1 2 3'":          true,
		"z='1' y='a' x='1'":              true,
		"":                               false, // x is Required
		"y='a' z='1'":                    false,
		"p:x='1'":                        false,
		"x='1' p:x='1'":                  false,
		"x='1' p:y='1'":                  false,
		"x=''":                           false,
		"x='1.0'":                        false,
		"x='q'":                          false,
		"x='1' y=''":                     true,
		"x='1' z=''":                     false,
		"x='1' z='1 2 3 4'":              false,
		"x='1' z='10'":                   false,
		"x='1' q='1'":                    false,
		"x='1' X='1'":                    false,
		"x='1' xml:lang='en'":            false,
		"x='1' xsi:type='t'":             false,
		"x='1' xmlns=''":                 true,
		"x='1' xmlns='u'":                true,
		"xmlns:x='1'":                    false,
		"x='1' xmlns:p='u' xmlns:q=''":   true,
		"x='1' xmlns:xsi='u'":            true,
		"x='1' xmlns:xsi='u' p:xmlns=''": false,
		"x='1' xmlnsx='1'":               false,
		"x='1' xmln='1'":                 false,
		"x='1' nil='1'":                  false,
		"x='1' xsi:nill='1'":             false,
		"x='1' xs:nil='1'":               false,
		"x='1' xsi:nil='0'":              true,
	} {
		letter := "-"
		if good {
			letter = "g"
		}
		marked(t, s, "<c "+attrs+">"+below, letter+"-- 2 ", "g-- 0 1", "g-- -1 ")
	}
	// nil and xsi are names like any other ones.
	marked(t, s, "<g nil='1' xsi='2'/>", "g-- 6 ")
	marked(t, s, "<g nil='true' xsi='2'/>", "--- 6 ")
	// A simple type declares none.
	for _, attrs := range []string{"x='1'", "y='one'", "p:x='1'", "xml:space='1'", "xsi:x='1'"} {
		marked(t, s, "<h "+attrs+">q</h>", "--- 7 q", "g-- -1 ")
	}
	marked(t, s, "<h xmlns='u' xmlns:x='1'>q</h>", "g-- 7 q", "g-- -1 ")
}

func TestWhatNilSays(t *testing.T) {
	s := house(t)
	for value, says := range map[string]string{
		"true": "true", "1": "true", " true": "true", "1 ": "true", "\t1\r\n": "true", "&#9;&#13;&#10;true": "true",
		"false": "false", "0": "false", " 0 ": "false", "&#10;false&#13;": "false",
		"": "", " ": "", "no": "", "yes": "", "True": "", "TRUE": "", "01": "", "+1": "", "00": "", "2": "", "true false": "", "1 1": "", "tru e": "", "&#160;1": "", "nil": "",
	} {
		nils := " xsi:nil='" + value + "'"
		switch says {
		case "true":
			marked(t, s, "<a"+nils+"/>", "gn- 0 ")
			marked(t, s, "<a"+nils+">1</a>", "-n- 0 ", "g-- -1 ")
			marked(t, s, "<i"+nils+"/>", "gn- 8 ")
			marked(t, s, "<g"+nils+"/>", "gn- 6 ")
			marked(t, s, "<c"+nils+" x='1'/>", "gn- 2 ")
		case "false":
			marked(t, s, "<a"+nils+"/>", "--- 0 ")
			marked(t, s, "<a"+nils+">1</a>", "g-- 0 1", "g-- -1 ")
			marked(t, s, "<i"+nils+"/>", "g-d 8 7")
			marked(t, s, "<g"+nils+"/>", "g-- 6 ")
			marked(t, s, "<c"+nils+" x='1'/>", "--- 2 ")
		default:
			marked(t, s, "<a"+nils+"/>", "--- 0 ")
			marked(t, s, "<a"+nils+">1</a>", "--- 0 1", "g-- -1 ")
			marked(t, s, "<i"+nils+"/>", "--d 8 7")
			marked(t, s, "<g"+nils+"/>", "--- 6 ")
			marked(t, s, "<c"+nils+" x='1'/>", "--- 2 ")
		}
		// None of these is Nillable, so nothing may be said, and none is Nil.
		marked(t, s, "<b"+nils+"/>", "--d 1 two")
		marked(t, s, "<b"+nils+">x</b>", "--- 1 x", "g-- -1 ")
		marked(t, s, "<h"+nils+"/>", "--- 7 ")
		marked(t, s, "<d"+nils+"/>", "--- 3 ")
		marked(t, s, "<f"+nils+"><q/></f>", "--- 5 ", "--- -1 ")
		// Another prefix is not this one.
		marked(t, s, "<a xs:nil='"+value+"'>1</a>", "--- 0 1", "g-- -1 ")
	}
}

func TestWhatIsBelowNil(t *testing.T) {
	s := house(t)
	marked(t, s, "<a xsi:nil='1'> </a>", "-n- 0 ", "g-- -1 ")
	marked(t, s, "<a xsi:nil='1'><b/></a>", "-n- 0 ", "g-d 1 two")
	marked(t, s, "<i xsi:nil='1'>2</i>", "-n- 8 ", "g-- -1 ")
	marked(t, s, "<i xsi:nil='1'></i>", "gn- 8 ")
	marked(t, s, "<i xsi:nil='1'><!-- a remark --></i>", "gn- 8 ")
	marked(t, s, "<i xsi:nil='1' x='1'/>", "-n- 8 ")
	marked(t, s, "<c xsi:nil='1' x='1'/>", "gn- 2 ")
	marked(t, s, "<c xsi:nil='1'/>", "-n- 2 ")
	marked(t, s, "<c xsi:nil='1' x='q'/>", "-n- 2 ")
	marked(t, s, "<c xsi:nil='1' x='1' q='1'/>", "-n- 2 ")
	marked(t, s, "<c xsi:nil='1' x='1' xmlns='u'/>", "gn- 2 ")
	marked(t, s, "<c xsi:nil='1' x='1'><a>1</a></c>", "-n- 2 ", "g-- 0 1", "g-- -1 ")
	marked(t, s, "<c xsi:nil='1' x='1'> </c>", "-n- 2 ", "g-- -1 ")
	// What stands beside an element, or below another, is not below it.
	marked(t, s, "<f><a xsi:nil='1'/>x<a xsi:nil='1'/><b>y</b></f>", "g-- 5 ", "gn- 0 ", "g-- -1 ", "gn- 0 ", "g-- 1 y", "g-- -1 ")
}

func TestSimpleContent(t *testing.T) {
	s := house(t)
	marked(t, s, "<a>1</a>", "g-- 0 1", "g-- -1 ")
	marked(t, s, "<a>&#13;+01&#10;</a>", "g-- 0 1", "g-- -1 ")
	marked(t, s, "<a/>", "--- 0 ")
	marked(t, s, "<a> </a>", "--- 0 ", "g-- -1 ")
	marked(t, s, "<a>q</a>", "--- 0 ", "g-- -1 ")
	marked(t, s, "<h/>", "g-- 7 ")
	marked(t, s, "<h> </h>", "g-- 7  ", "g-- -1 ")
	marked(t, s, "<h>&#13;&lt; \"é\" </h>", "g-- 7 \r< \"é\" ", "g-- -1 ")
	marked(t, s, "<j>1 02 3</j>", "g-- 9 1 2 3", "g-- -1 ")
	marked(t, s, "<j>1 2 3 4</j>", "--- 9 ", "g-- -1 ")
	marked(t, s, "<j/>", "--- 9 ")
	marked(t, s, "<m>x 1</m>", "g-- 12 x 1", "g-- -1 ")
	marked(t, s, "<m> 01 </m>", "g-- 12 1", "g-- -1 ")
	marked(t, s, "<m/>", "g-d 12 1")
	marked(t, s, "<n/>", "g-d 13 \tx\n")
	marked(t, s, "<b/>", "g-d 1 two")
	marked(t, s, "<b></b>", "g-d 1 two")
	marked(t, s, "<b><!-- a remark --></b>", "g-d 1 two")
	marked(t, s, "<b> </b>", "g-- 1 ", "g-- -1 ")
	marked(t, s, "<b>&#13;&#9;</b>", "g-- 1 ", "g-- -1 ")
	marked(t, s, "<b>two</b>", "g-- 1 two", "g-- -1 ")
	marked(t, s, "<l/>", "g-d 11 ")
	marked(t, s, "<l> </l>", "g-- 11 ", "g-- -1 ")
	marked(t, s, "<i/>", "g-d 8 7")
	marked(t, s, "<i> </i>", "--- 8 ", "g-- -1 ")
	marked(t, s, "<i>x</i>", "--- 8 ", "g-- -1 ")
}

func TestElementsBelowSimpleTypes(t *testing.T) {
	s := house(t)
	marked(t, s, "<a><b/></a>", "--- 0 ", "g-d 1 two")
	marked(t, s, "<b><b/></b>", "--- 1 ", "g-d 1 two") // something is below it: Default is not asked
	marked(t, s, "<i><q/></i>", "--- 8 ", "--- -1 ")
	marked(t, s, "<a>1<b/></a>", "--- 0 1", "g-- -1 ", "g-d 1 two")
	marked(t, s, "<a>1<b>5</b>2<b/>3</a>", "--- 0 123", "g-- -1 ", "g-- 1 5", "g-- -1 ", "g-- -1 ", "g-d 1 two", "g-- -1 ")
	marked(t, s, "<a>1<b/>q</a>", "--- 0 ", "g-- -1 ", "g-d 1 two", "g-- -1 ")
	marked(t, s, "<a>1<!-- a remark -->2</a>", "g-- 0 12", "g-- -1 ")
	marked(t, s, "<h><a>1</a></h>", "--- 7 ", "g-- 0 1", "g-- -1 ")
}

func TestValuesOfWhatIsNotGoodForSomethingElse(t *testing.T) {
	s := house(t)
	marked(t, s, "<a q='1'>01</a>", "--- 0 1", "g-- -1 ")
	marked(t, s, "<b q='1'/>", "--d 1 two")
	marked(t, s, "<b xsi:nil='0'/>", "--d 1 two")
	marked(t, s, "<i xsi:nil='?' q='1'/>", "--d 8 7")
	marked(t, s, "<m p:q=''>+5<b/></m>", "--- 12 5", "g-- -1 ", "g-d 1 two")
	marked(t, s, "<a q='1'>x</a>", "--- 0 ", "g-- -1 ")
}

func TestComplexContent(t *testing.T) {
	s := house(t)
	for doc, good := range map[string]bool{
		// no model: bare, and prose, which is mixed
		"<d/>": true, "<d> </d>": true, "<d>&#9;&#10;&#13; </d>": true, "<d>x</d>": false, "<d>&#160;</d>": false, "<d><a>1</a></d>": false, "<d> <b/> </d>": false,
		"<e/>": true, "<e> </e>": true, "<e>x</e>": true, "<e><b/></e>": false, "<e>x<b/>y</e>": false,
		// a model that takes no names
		"<k/>": true, "<k> </k>": true, "<k>x</k>": false, "<k><b/></k>": false,
		// any names, mixed
		"<f/>": true, "<f>x</f>": true, "<f><p:q/>x<q/></f>": true,
		// one that may be empty
		"<g/>": true, "<g><a>1</a></g>": true, "<g><b/></g>": true, "<g> <a>1</a> <b/> </g>": true, "<g><b/><a>1</a></g>": false, "<g><a>1</a><a>1</a></g>": false, "<g><c/></g>": false, "<g><q/></g>": false, "<g><p:a/></g>": false, "<g>x</g>": false, "<g><a>1</a>x</g>": false, "<g><b/> x </g>": false,
		// one that may not
		"<c x='1'/>": false, "<c x='1'> </c>": false, "<c x='1'><a>1</a></c>": true, "<c x='1'><a>1</a><b/><b/></c>": true, "<c x='1'><b/></c>": false, "<c x='1'><a>1</a><d/></c>": false, "<c x='1'><a>1</a><b/><a>1</a></c>": false, "<c x='1'>1<a>1</a></c>": false,
		// texts further down are not right below
		"<c x='1'><a>1</a><b>words</b></c>": true,
	} {
		list := parsed(t, doc)
		marks, _ := assessed(t, s, list)
		if want := (impl.Mark{Good: good, Decl: marks[0].Decl}); marks[0] != want || marks[0].Decl != impl.DeclOf(s, list[0].Name) {
			t.Errorf("%s: %+v, not %+v", doc, marks[0], want)
		}
	}
}

func TestManyElements(t *testing.T) {
	// As many items as there may be, each with its own value, in the order in which they stand.
	s := house(t)
	list := []impl.Item{elem(-1, "f")}
	for len(list) < impl.MaxItems-1 {
		list = append(list, elem(0, "a"), text(int64(len(list)), fmt.Sprint("0", len(list))))
	}
	for range 5 {
		marks, code := assessed(t, s, append(list, elem(0, "b")))
		for n := 1; n < len(list); n += 2 {
			if marks[n] != (impl.Mark{Good: true, Value: fmt.Sprint(n)}) {
				t.Fatalf("item %d: %+v", n, marks[n])
			}
		}
		if code != impl.AsValid || !marks[len(list)].Given {
			t.Fatal(code)
		}
	}
	deep := []impl.Item{elem(-1, "f")}
	for len(deep) < impl.MaxDeep {
		deep = append(deep, elem(int64(len(deep)-1), "f"))
	}
	if _, code := assessed(t, s, deep); code != impl.AsValid {
		t.Error(code)
	}
	deep[impl.MaxDeep-1].Name = "h"
	deep[impl.MaxDeep-2].Name = "g"
	marks, code := assessed(t, s, deep)
	if code != impl.AsInvalid || marks[impl.MaxDeep-2].Good || !marks[impl.MaxDeep-1].Good {
		t.Error(marks, code)
	}
}

func TestLongDefaults(t *testing.T) {
	// A Default may be longer than a document may be.
	s := impl.Schema{Simples: []impl.Simple{simple("text", impl.SmText)}, Decls: []impl.Decl{simpleDecl("a", 0)}}
	for _, many := range []int{maxBytes - 1, maxBytes, impl.MaxText} {
		s.Decls[0].Default = strings.Repeat("x", many)
		marks, code := assessed(t, s, []impl.Item{elem(-1, "a")})
		if code != impl.AsValid || marks[0] != (impl.Mark{Good: true, Value: s.Decls[0].Default, Given: true}) {
			t.Error(many, code)
		}
		filled, ok := impl.Filled(s, []impl.Item{elem(-1, "a")})
		if ok != (many < maxBytes) || ok && !sameItems(filled, []impl.Item{elem(-1, "a"), text(0, s.Decls[0].Default)}) {
			t.Error(many, ok)
		}
		if said := impl.MarksText(marks); (said == "") != (many > maxBytes) {
			t.Errorf("%d: %.50q", many, said)
		}
	}
}

// rightOne makes schemas until one is right and declares something.
func (m maker) rightOne() impl.Schema {
	for {
		if s := m.schema(); len(s.Decls) > 0 && schemaRight(s) {
			return s
		}
	}
}

// docFor makes a document that is mostly valid.
func (m maker) docFor(s impl.Schema) []impl.Item {
	var list []impl.Item
	m.grow(s, &list, -1, s.Decls[m.Intn(len(s.Decls))].Name)
	return list
}

// grow adds an element and what may stand below it.
func (m maker) grow(s impl.Schema, list *[]impl.Item, up int64, name string) {
	n := int64(len(*list))
	item := elem(up, name)
	place := slices.IndexFunc(s.Decls, func(d impl.Decl) bool { return d.Name == name })
	if place == -1 || n > 60 || up != -1 && m.depth(*list, up) > 4 {
		*list = append(*list, item)
		return
	}
	decl := s.Decls[place]
	item.Attrs = m.attrsFor(s, decl)
	*list = append(*list, item)
	says, _ := attrIn(item.Attrs, "xsi:nil")
	if isNil, _ := kindValue(impl.SmBool, says); isNil == "true" && m.Intn(8) > 0 {
		return
	}
	if decl.Kind == impl.TpSimple {
		m.growText(list, n, m.textFor(s.Simples, decl.Type))
		if m.Intn(40) == 0 {
			m.grow(s, list, n, m.pick("a", "b", name))
			m.growText(list, n, m.textFor(s.Simples, decl.Type))
		}
		return
	}
	c := s.Complexes[decl.Type]
	var row []string
	if len(c.Model) > 0 {
		row = m.rowFor(c.Model, int64(len(c.Model)-1))
	}
	if m.Intn(25) == 0 {
		row = m.bentRow(row)
	}
	m.growRow(s, list, n, row, c.Mixed != (m.Intn(30) == 0))
}

// growText leaves out what a document can't have.
func (m maker) growText(list *[]impl.Item, up int64, words string) {
	if words != "" && isPlain(words) && m.Intn(6) > 0 {
		*list = append(*list, text(up, words))
	}
}

func (m maker) growRow(s impl.Schema, list *[]impl.Item, up int64, row []string, mixed bool) {
	for i := range len(row) + 1 {
		if words := m.pick("", "", " ", "\t\n", "\r"); mixed {
			m.growText(list, up, words+m.pick("", "x", "1"))
		} else {
			m.growText(list, up, words)
		}
		if i < len(row) && nameForm.MatchString(strings.TrimPrefix(row[i], "p:")) {
			m.grow(s, list, up, row[i])
		}
	}
}

func (m maker) attrsFor(s impl.Schema, decl impl.Decl) []impl.Attr {
	var attrs []impl.Attr
	if decl.Nillable && m.Intn(3) == 0 || m.Intn(40) == 0 {
		attrs = append(attrs, attr("xsi:nil", m.pick("true", "1", " true", "false", "0", "\n0", m.pick("", "x", "true", "0"))))
	}
	if decl.Kind == impl.TpComplex {
		for _, a := range s.Complexes[decl.Type].Attrs {
			if value := m.textFor(s.Simples, a.Type); isPlain(value) && (a.Required && m.Intn(20) > 0 || m.Intn(2) == 0) {
				attrs = append(attrs, attr(a.Name, value))
			}
		}
	}
	for _, name := range []string{"xmlns", "xmlns:p", "q", "p:x0"} {
		if m.Intn(15) == 0 && (strings.HasPrefix(name, "xmlns") || m.Intn(4) == 0) {
			attrs = append(attrs, attr(name, m.pick("", "u", "1")))
		}
	}
	m.Shuffle(len(attrs), func(i, j int) { attrs[i], attrs[j] = attrs[j], attrs[i] })
	return attrs
}

func TestMarksAgainstTheOracle(t *testing.T) {
	m := maker{rand.New(rand.NewSource(121))}
	var codes [4]int
	nils, given, values := 0, 0, 0
	for range 1200 {
		s := m.rightOne()
		for range 5 {
			list := m.docFor(s)
			marks, code := assessed(t, s, list)
			codes[code]++
			for _, mark := range marks {
				if mark.Nil {
					nils++
				}
				if mark.Given {
					given++
				}
				if mark.Value != "" {
					values++
				}
			}
			filledOf(t, s, list)
		}
	}
	if codes[impl.AsValid] < 1500 || codes[impl.AsInvalid] < 1500 || nils < 400 || given < 300 || values < 1500 {
		t.Errorf("codes %v, %d nil, %d given, %d values", codes, nils, given, values)
	}
}

func TestSchemasAndDocumentsThatMayBeWrong(t *testing.T) {
	m := maker{rand.New(rand.NewSource(122))}
	var codes [4]int
	for range 2000 {
		s := m.schema()
		list := m.doc()
		if len(s.Decls) > 0 && schemaRight(s) {
			list = m.bentDoc(m.docFor(s))
		}
		_, code := assessed(t, s, list)
		codes[code]++
		filledOf(t, s, list)
	}
	for code, many := range codes {
		if many < 80 {
			t.Errorf("the code %d was told %d times", code, many)
		}
	}
}

// spareItems gives the lists room behind them, with marks there.
func spareItems(list []impl.Item) []impl.Item {
	out := append(cloneItems(list), elem(7, "behind"))[:len(list)]
	for i := range out {
		out[i].Attrs = append(out[i].Attrs, attr("behind", "x"))[:len(out[i].Attrs)]
	}
	return out
}

// behindItems has the document with what stands behind its lists.
func behindItems(list []impl.Item) []impl.Item {
	out := cloneItems(list[:len(list)+1])
	for i := range list {
		out[i].Attrs = slices.Clone(list[i].Attrs[:len(list[i].Attrs)+1])
	}
	return out
}

func TestAssessingLeavesItsArguments(t *testing.T) {
	m := maker{rand.New(rand.NewSource(123))}
	for range 800 {
		s := spareSchema(m.rightOne())
		list := spareItems(m.docFor(s))
		keptSchema, keptItems := behindAll(s), behindItems(list)
		marks, code := impl.Assess(s, list)
		filled, ok := impl.Filled(s, list)
		good := impl.ElementGood(s, list, 0)
		first, firstFilled := slices.Clone(marks), cloneItems(filled)
		// What is done to an answer reaches neither an argument nor another answer.
		for i := range filled {
			for n := range filled[i].Attrs[:cap(filled[i].Attrs)] {
				filled[i].Attrs[:cap(filled[i].Attrs)][n] = attr("changed", "")
			}
		}
		for i := range filled[:cap(filled)] {
			filled[:cap(filled)][i] = elem(9, "changed")
		}
		for i := range marks[:cap(marks)] {
			marks[:cap(marks)][i] = impl.Mark{Value: "changed"}
		}
		if !sameSchema(behindAll(s), keptSchema) || !sameItems(behindItems(list), keptItems) {
			t.Fatalf("%+v or %+v was changed", keptSchema, keptItems)
		}
		again, code2 := impl.Assess(s, list)
		filled2, ok2 := impl.Filled(s, list)
		if code != code2 || ok != ok2 || good != impl.ElementGood(s, list, 0) || !slices.Equal(again, first) || !sameItems(filled2, firstFilled) {
			t.Fatalf("%+v is assessed in two ways", list)
		}
	}
}

func TestAssessingSideBySide(t *testing.T) {
	// Calls that run at the same time know nothing of each other.
	s := house(t)
	docs := []string{"<f><a>1</a><a>2</a><b/></f>", "<f><a>x</a><i/><i>5</i></f>", "<c x='1'><a xsi:nil='1'/><b>q</b></c>", "<q/>"}
	done := make(chan string)
	for range 8 {
		go func() {
			said := ""
			for _, doc := range docs {
				list, _ := impl.ParseDoc(doc)
				marks, code := impl.Assess(s, list)
				said += fmt.Sprint(marks, code)
			}
			done <- said
		}()
	}
	first := <-done
	for range 7 {
		if said := <-done; said != first {
			t.Errorf("%s, not %s", said, first)
		}
	}
}
