package tests

import (
	"math/rand"
	"reflect"
	"slices"
	"strconv"
	"strings"
	"testing"

	"loop.example/g00262/impl"
)

func simpleDecl(name string, place int64) impl.Decl {
	return impl.Decl{Name: name, Kind: impl.TpSimple, Type: place}
}

func complexDecl(name string, place int64) impl.Decl {
	return impl.Decl{Name: name, Kind: impl.TpComplex, Type: place}
}

func attrDecl(name string, place int64) impl.AttrDecl {
	return impl.AttrDecl{Name: name, Type: place}
}

func cloneSchema(s impl.Schema) impl.Schema {
	out := impl.Schema{Simples: cloneTypes(s.Simples), Complexes: slices.Clone(s.Complexes), Decls: slices.Clone(s.Decls)}
	for i := range out.Complexes {
		out.Complexes[i].Model, out.Complexes[i].Attrs = clonePt(out.Complexes[i].Model), slices.Clone(out.Complexes[i].Attrs)
	}
	return out
}

// sameSchema takes an empty list and nil for the same.
func sameSchema(a, b impl.Schema) bool {
	simples := slices.EqualFunc(a.Simples, b.Simples, func(x, y impl.Simple) bool {
		lists := slices.Equal(x.Members, y.Members) && slices.Equal(x.Enum, y.Enum)
		x.Members, y.Members, x.Enum, y.Enum = nil, nil, nil, nil
		return lists && reflect.DeepEqual(x, y)
	})
	complexes := slices.EqualFunc(a.Complexes, b.Complexes, func(x, y impl.Complex) bool {
		return x.Name == y.Name && x.Mixed == y.Mixed && samePt(x.Model, y.Model) && slices.Equal(x.Attrs, y.Attrs)
	})
	return simples && complexes && slices.Equal(a.Decls, b.Decls)
}

// hasDefault is what chapter 10 asks of a Default that is not empty.
func hasDefault(list []impl.Simple, n int64, s string) bool {
	_, _, ok := valueIn(list, n, s)
	return ok
}

func isPlace(n int64, many int) bool { return 0 <= n && n < int64(many) }

// schemaRight is chapter 10's own list of what a right schema is.
func schemaRight(s impl.Schema) bool {
	if !typesRight(s.Simples) || len(s.Complexes) > 30 || len(s.Decls) > 30 {
		return false
	}
	types, decls := map[string]bool{}, map[string]bool{}
	for _, one := range s.Simples {
		types[one.Name] = true
	}
	for _, d := range s.Decls {
		if decls[d.Name] || !nameForm.MatchString(d.Name) {
			return false
		}
		decls[d.Name] = true
		simple := d.Kind == 1 && isPlace(d.Type, len(s.Simples)) && (d.Default == "" || hasDefault(s.Simples, d.Type, d.Default))
		if !simple && !(d.Kind == 2 && isPlace(d.Type, len(s.Complexes)) && d.Default == "") {
			return false
		}
	}
	for _, c := range s.Complexes {
		if types[c.Name] || !nameForm.MatchString(c.Name) || len(c.Model) > 0 && !impl.Clear(c.Model) || len(c.Attrs) > 10 {
			return false
		}
		types[c.Name] = true
		for _, node := range c.Model {
			if node.Name != "" && !decls[node.Name] {
				return false
			}
		}
		attrs := map[string]bool{"xmlns": true}
		for _, a := range c.Attrs {
			if attrs[a.Name] || !nameForm.MatchString(a.Name) || !isPlace(a.Type, len(s.Simples)) {
				return false
			}
			attrs[a.Name] = true
			if a.Default != "" && (a.Required || !hasDefault(s.Simples, a.Type, a.Default)) {
				return false
			}
		}
	}
	return true
}

// placesOfDecls asks for each name of the schema, and for some that it has not.
func placesOfDecls(t *testing.T, what string, s impl.Schema, right bool) {
	t.Helper()
	names := []string{"", "a", "b", "zz", "xmlns", "p:a", "A", strings.Repeat("n", 41), "\x00"}
	for _, d := range s.Decls {
		names = append(names, d.Name, d.Name+"x")
	}
	for _, name := range names {
		want := int64(-1)
		for i, d := range s.Decls {
			if right && d.Name == name {
				want = int64(i)
			}
		}
		if got := impl.DeclOf(s, name); got != want {
			t.Errorf("%.200q: %q is declared at %d, not %d", what, name, got, want)
		}
	}
}

func rightSchema(t *testing.T, what string, s impl.Schema) {
	t.Helper()
	if !impl.SchemaOk(s) || !schemaRight(s) {
		t.Errorf("%.200q is refused", what)
		return
	}
	placesOfDecls(t, what, s, true)
	docAndBack(t, what, s)
}

func wrongSchema(t *testing.T, what string, s impl.Schema) {
	t.Helper()
	if impl.SchemaOk(s) || schemaRight(s) {
		t.Errorf("%.200q is right", what)
	}
	placesOfDecls(t, what, s, false)
	if list, ok := impl.SchemaDoc(s); ok || len(list) != 0 {
		t.Errorf("%.200q has a document", what)
	}
}

// baseSchema is a right one that the tests change in one thing.
func baseSchema() impl.Schema {
	return impl.Schema{
		Simples: []impl.Simple{simple("int", impl.SmInteger), simple("word", impl.SmToken), leaning("ints", impl.SmList, 0)},
		Complexes: []impl.Complex{
			{Name: "t", Model: ptSeq(0, ptElem("a", 0), ptElem("b", impl.OcStar)), Attrs: []impl.AttrDecl{attrDecl("x", 0), attrDecl("y", 1)}},
			{Name: "u", Mixed: true},
		},
		Decls: []impl.Decl{simpleDecl("a", 0), simpleDecl("b", 1), complexDecl("c", 0), complexDecl("d", 1)},
	}
}

func changed(change func(s *impl.Schema)) impl.Schema {
	s := baseSchema()
	change(&s)
	return s
}

// namesFrom are so many unlike names.
func namesFrom(prefix string, many int) []string {
	var names []string
	for i := range many {
		names = append(names, prefix+strconv.Itoa(i))
	}
	return names
}

func TestSchemasOfFewThings(t *testing.T) {
	base := baseSchema()
	rightSchema(t, "the base", base)
	rightSchema(t, "nothing", impl.Schema{})
	rightSchema(t, "nothing, in lists", impl.Schema{Simples: []impl.Simple{}, Complexes: []impl.Complex{}, Decls: []impl.Decl{}})
	rightSchema(t, "simple types alone", impl.Schema{Simples: base.Simples})
	rightSchema(t, "complex types alone", impl.Schema{Complexes: []impl.Complex{{Name: "t"}, {Name: "u", Model: ptSeq(0, ptAny(0))}}})
	rightSchema(t, "no simple types", impl.Schema{Complexes: []impl.Complex{{Name: "t", Model: ptSeq(0, ptElem("a", 0))}}, Decls: []impl.Decl{complexDecl("a", 0)}})
	rightSchema(t, "no complex types", impl.Schema{Simples: base.Simples, Decls: base.Decls[:2]})
	rightSchema(t, "no declarations", impl.Schema{Simples: base.Simples, Complexes: base.Complexes[1:]})
	wrongSchema(t, "declarations alone", impl.Schema{Decls: base.Decls})
	wrongSchema(t, "a simple declaration alone", impl.Schema{Decls: base.Decls[:1]})
	wrongSchema(t, "a complex declaration alone", impl.Schema{Decls: base.Decls[2:3]})
	wrongSchema(t, "an attribute without types", impl.Schema{Complexes: []impl.Complex{{Name: "t", Attrs: []impl.AttrDecl{attrDecl("x", 0)}}}})
}

func TestSchemasAtTheirLimits(t *testing.T) {
	of := func(simples, complexes, decls, attrs int) impl.Schema {
		var s impl.Schema
		for _, name := range namesFrom("s", simples) {
			s.Simples = append(s.Simples, simple(name, impl.SmText))
		}
		for _, name := range namesFrom("c", complexes) {
			s.Complexes = append(s.Complexes, impl.Complex{Name: name})
		}
		for _, name := range namesFrom("e", decls) {
			s.Decls = append(s.Decls, simpleDecl(name, 0))
		}
		for _, name := range namesFrom("x", attrs) {
			last := &s.Complexes[complexes-1]
			last.Attrs = append(last.Attrs, attrDecl(name, 0))
		}
		return s
	}
	rightSchema(t, "thirty simple types", of(30, 0, 0, 0))
	rightSchema(t, "thirty complex types", of(1, 30, 0, 0))
	rightSchema(t, "thirty types of each sort", of(30, 30, 0, 0))
	rightSchema(t, "thirty declarations", of(1, 0, 30, 0))
	rightSchema(t, "thirty of all", of(30, 30, 30, 10))
	rightSchema(t, "ten attributes", of(1, 1, 0, 10))
	rightSchema(t, "ten attributes of the last one", of(1, 30, 0, 10))
	wrongSchema(t, "thirty-one simple types", of(31, 0, 0, 0))
	wrongSchema(t, "thirty-one complex types", of(1, 31, 0, 0))
	wrongSchema(t, "thirty-one declarations", of(1, 0, 31, 0))
	wrongSchema(t, "eleven attributes", of(1, 1, 0, 11))
	wrongSchema(t, "eleven attributes of the last one", of(1, 30, 0, 11))
	wrongSchema(t, "very many declarations", of(1, 0, 5000, 0))
	wrongSchema(t, "very many complex types", of(1, 5000, 0, 0))
	wrongSchema(t, "very many attributes", of(1, 1, 0, 5000))
}

func TestNamesInSchemas(t *testing.T) {
	long := strings.Repeat("n", impl.MaxName)
	rightSchema(t, "an element with a simple type's name", changed(func(s *impl.Schema) { s.Decls[2].Name = "int" }))
	rightSchema(t, "an element with a complex type's name", changed(func(s *impl.Schema) { s.Decls[2].Name = "t" }))
	rightSchema(t, "an element with its own type's name", changed(func(s *impl.Schema) { s.Decls[3].Name = "u" }))
	rightSchema(t, "an attribute with a type's name", changed(func(s *impl.Schema) { s.Complexes[0].Attrs[0].Name = "int" }))
	rightSchema(t, "an attribute with an element's name", changed(func(s *impl.Schema) { s.Complexes[0].Attrs[0].Name = "a" }))
	rightSchema(t, "attributes of two types alike", changed(func(s *impl.Schema) { s.Complexes[1].Attrs = []impl.AttrDecl{attrDecl("x", 2)} }))
	rightSchema(t, "an element xmlns", changed(func(s *impl.Schema) { s.Decls[3].Name = "xmlns" }))
	rightSchema(t, "a type xmlns", changed(func(s *impl.Schema) { s.Complexes[1].Name = "xmlns" }))
	rightSchema(t, "an attribute xml", changed(func(s *impl.Schema) { s.Complexes[0].Attrs[1].Name = "xml" }))
	rightSchema(t, "an attribute XMLNS", changed(func(s *impl.Schema) { s.Complexes[0].Attrs[1].Name = "XMLNS" }))
	wrongSchema(t, "an attribute xmlns", changed(func(s *impl.Schema) { s.Complexes[0].Attrs[0].Name = "xmlns" }))
	wrongSchema(t, "a last attribute xmlns", changed(func(s *impl.Schema) { s.Complexes[0].Attrs[1].Name = "xmlns" }))
	wrongSchema(t, "two attributes alike", changed(func(s *impl.Schema) { s.Complexes[0].Attrs[1].Name = "x" }))
	wrongSchema(t, "a complex type with a simple one's name", changed(func(s *impl.Schema) { s.Complexes[0].Name = "int" }))
	wrongSchema(t, "a complex type with the last simple one's name", changed(func(s *impl.Schema) { s.Complexes[1].Name = "ints" }))
	wrongSchema(t, "two complex types alike", changed(func(s *impl.Schema) { s.Complexes[1].Name = "t" }))
	wrongSchema(t, "two simple types alike", changed(func(s *impl.Schema) { s.Simples[1].Name = "int" }))
	wrongSchema(t, "two elements alike", changed(func(s *impl.Schema) { s.Decls[3].Name = "c" }))
	wrongSchema(t, "two elements alike, of two sorts", changed(func(s *impl.Schema) { s.Decls[3].Name = "a" }))
	for _, put := range []func(s *impl.Schema, name string){
		func(s *impl.Schema, name string) { s.Simples[1].Name = name },
		func(s *impl.Schema, name string) { s.Complexes[0].Name = name },
		func(s *impl.Schema, name string) { s.Complexes[1].Name = name },
		func(s *impl.Schema, name string) { s.Decls[2].Name = name },
		func(s *impl.Schema, name string) { s.Decls[3].Name = name },
		func(s *impl.Schema, name string) { s.Complexes[0].Attrs[0].Name = name },
	} {
		for _, name := range []string{"_", "Z", "q.1-", long} {
			rightSchema(t, name, changed(func(s *impl.Schema) { put(s, name) }))
		}
		for _, name := range []string{"", "1", "p:a", "a ", " a", "é", "-", ".", long + "n", "\x00", "\xff", strings.Repeat("n", impl.MaxText+1)} {
			wrongSchema(t, name, changed(func(s *impl.Schema) { put(s, name) }))
		}
	}
}

func TestModelsInSchemas(t *testing.T) {
	with := func(p []impl.PNode) impl.Schema {
		return changed(func(s *impl.Schema) { s.Complexes[0].Model = p })
	}
	for _, text := range []string{
		"()", "()*", "(a)", "(a,b)", "(a|b)", "(a*,b?,c+,d)", "(#)", "(a,#)", "(#,a)", "(#*)", "((a|b)*,c)", "(a,a)", "(a,(b|c)*,d?)?", "(b,(a,b)*)", "(d,(),d)", "(a,b,a,b)",
	} {
		rightSchema(t, text, with(readPt(t, text)))
	}
	for _, text := range []string{"(a|a)", "(a?,a)", "(a*,a)", "(#|a)", "(#?,a)", "(a*,#)", "((a,b)|(a,c))", "((a|b)*,a)", "(#|#)", "(#*,#)"} {
		wrongSchema(t, text+", which is not clear", with(readPt(t, text)))
	}
	for _, text := range []string{"(z)", "(a,z)", "(z*)", "(a|z?)", "((((z))))", "(int)", "(t)", "(x)", "(A)", "(other)", "(#,z)"} {
		wrongSchema(t, text+", with a name that is not declared", with(readPt(t, text)))
	}
	for what, p := range wrongPt() {
		if len(p) > 0 {
			wrongSchema(t, "a model: "+what, with(p))
		}
	}
	for what, p := range strayPt() {
		wrongSchema(t, "a model: "+what, with(p))
	}
	rightSchema(t, "no nodes", with([]impl.PNode{}))
	rightSchema(t, "none", with(nil))
	rightSchema(t, "an element within itself", with(readPt(t, "(c?)")))
	wrongSchema(t, "the last model", changed(func(s *impl.Schema) { s.Complexes[1].Model = readPt(t, "(z)") }))
	wrongSchema(t, "a model, and no declaration", changed(func(s *impl.Schema) { s.Decls = nil }))
	s := baseSchema()
	s.Decls = s.Decls[1:]
	wrongSchema(t, "a declaration less", s)
}

func TestTypesOfDeclarations(t *testing.T) {
	for place := range int64(3) {
		rightSchema(t, "a simple place", changed(func(s *impl.Schema) { s.Decls[0].Type = place }))
		rightSchema(t, "a simple place of an attribute", changed(func(s *impl.Schema) { s.Complexes[0].Attrs[1].Type = place }))
	}
	for place := range int64(2) {
		rightSchema(t, "a complex place", changed(func(s *impl.Schema) { s.Decls[2].Type = place }))
	}
	for _, place := range append([]int64{-1, 3, 4, 30}, farOff...) {
		wrongSchema(t, "beyond the simple places", changed(func(s *impl.Schema) { s.Decls[0].Type = place }))
		wrongSchema(t, "beyond the simple places, an attribute", changed(func(s *impl.Schema) { s.Complexes[0].Attrs[1].Type = place }))
	}
	for _, place := range append([]int64{-1, 2, 3, 30}, farOff...) {
		wrongSchema(t, "beyond the complex places", changed(func(s *impl.Schema) { s.Decls[3].Type = place }))
	}
	for _, kind := range append([]int64{-1, 0, 3, 4, 257, 258}, farOff...) {
		wrongSchema(t, "a kind", changed(func(s *impl.Schema) { s.Decls[0].Kind = kind }))
		wrongSchema(t, "a last kind", changed(func(s *impl.Schema) { s.Decls[3].Kind = kind }))
	}
	for at := range baseSchema().Decls {
		rightSchema(t, "nillable", changed(func(s *impl.Schema) { s.Decls[at].Nillable = true }))
	}
}

func TestDefaults(t *testing.T) {
	for kind, texts := range kindTexts() {
		with := func(s string, required bool, put func(c *impl.Schema, s string)) impl.Schema {
			c := impl.Schema{
				Simples:   oneOfEach(),
				Complexes: []impl.Complex{{Name: "c", Attrs: []impl.AttrDecl{attrDecl("x", 0), {Name: "y", Type: kind - 1, Required: required}}}},
				Decls:     []impl.Decl{simpleDecl("e", 0), simpleDecl("f", kind-1)},
			}
			put(&c, s)
			return c
		}
		ofElement := func(c *impl.Schema, s string) { c.Decls[1].Default = s }
		ofAttr := func(c *impl.Schema, s string) { c.Complexes[0].Attrs[1].Default = s }
		rightSchema(t, "no default", with("", false, ofElement))
		rightSchema(t, "no default, required", with("", true, ofAttr))
		for _, s := range texts[0] {
			rightSchema(t, s, with(s, false, ofElement))
			rightSchema(t, s, with(s, true, ofElement))
			rightSchema(t, s, with(s, false, ofAttr))
			if s != "" {
				wrongSchema(t, "required: "+s, with(s, true, ofAttr))
			}
		}
		for _, s := range texts[1] {
			if s != "" {
				wrongSchema(t, s, with(s, false, ofElement))
				wrongSchema(t, s, with(s, false, ofAttr))
				wrongSchema(t, s, with(s, true, ofAttr))
			}
		}
	}
	for _, s := range []string{"a", " ", "1"} {
		wrongSchema(t, "a default of a complex type", changed(func(c *impl.Schema) { c.Decls[2].Default = s }))
		wrongSchema(t, "a default of a mixed type", changed(func(c *impl.Schema) { c.Decls[3].Default = s }))
	}
	rightSchema(t, "a list", changed(func(c *impl.Schema) { c.Decls[0] = impl.Decl{Name: "a", Kind: 1, Type: 2, Default: " 1 02"} }))
	wrongSchema(t, "a list of others", changed(func(c *impl.Schema) { c.Decls[0] = impl.Decl{Name: "a", Kind: 1, Type: 2, Default: "1 x"} }))
}

func TestDefaultsThatATypeSaysNoTo(t *testing.T) {
	types := oneOfEach(simple("m", impl.SmToken), simple("n", impl.SmInteger), leaning("o", impl.SmBased, 10))
	types[9].Enum, types[9].Pattern = []string{"one", "two"}, "[a-z ]+"
	types[10].Low, types[10].High = "1", "9"
	types[11].High = "5"
	for _, c := range []struct {
		place int64
		s     string
		right bool
	}{
		{9, "one", true}, {9, " two ", true}, {9, "three", false}, {9, "ONE", false},
		{10, "1", true}, {10, "9", true}, {10, "0", false}, {10, "10", false}, {10, "09", true},
		{11, "5", true}, {11, "6", false}, {11, "0", false},
		{unionPlace, "true", true}, {unionPlace, "x y", true}, {unionPlace, "\x00", false},
		{listPlace, "1 2", true}, {listPlace, " ", true}, {listPlace, "1,2", false},
	} {
		check := wrongSchema
		if c.right {
			check = rightSchema
		}
		check(t, c.s, impl.Schema{Simples: types, Decls: []impl.Decl{{Name: "e", Kind: impl.TpSimple, Type: c.place, Default: c.s}}})
		check(t, c.s, impl.Schema{Simples: types, Complexes: []impl.Complex{{Name: "c", Attrs: []impl.AttrDecl{{Name: "x", Type: c.place, Default: c.s}}}}})
	}
	// "" says that there is none, so no value is asked of it.
	rightSchema(t, "the empty text has no value", impl.Schema{Simples: types, Decls: []impl.Decl{simpleDecl("e", 10)}})
}

func TestSimpleTypesOfSchemas(t *testing.T) {
	wrongSchema(t, "a simple type without a kind", changed(func(s *impl.Schema) { s.Simples[1].Kind = 0 }))
	wrongSchema(t, "a base of its own", changed(func(s *impl.Schema) { s.Simples[2].Base = 2 }))
	wrongSchema(t, "numbers 0", changed(func(s *impl.Schema) { s.Simples[0].MinLong, s.Simples[0].MaxLong = 0, 0 }))
	wrongSchema(t, "a pattern that is none", changed(func(s *impl.Schema) { s.Simples[1].Pattern = "(" }))
	wrongSchema(t, "an enum that is none", changed(func(s *impl.Schema) { s.Simples[0].Enum = []string{"1", "x"} }))
}

// schema makes one that is mostly right.
func (m maker) schema() impl.Schema {
	s := impl.Schema{Simples: m.types()}
	var names []string
	for range m.Intn(5) {
		names = append(names, m.pick("a", "b", "c", "d", "e", "t0", "t1", "c0", "_x.9-", "value", "schema"))
	}
	slices.Sort(names)
	if m.Intn(12) > 0 {
		names = slices.Compact(names)
	}
	for i := range m.Intn(3) {
		one := impl.Complex{Name: "c" + strconv.Itoa(i), Mixed: m.Intn(2) == 0}
		if m.Intn(40) == 0 {
			one.Name = m.pick("t0", "c0", "", "p:c")
		}
		if len(names) > 0 {
			one.Model = m.clearModel(names)
		}
		for n := range m.Intn(4) {
			one.Attrs = append(one.Attrs, m.attrDecl(s, n))
		}
		s.Complexes = append(s.Complexes, one)
	}
	for _, name := range names {
		s.Decls = append(s.Decls, m.decl(s, name))
	}
	return s
}

func (m maker) clearModel(names []string) []impl.PNode {
	if m.Intn(60) == 0 {
		names = append(names, "zz")
	}
	for range 20 {
		if p := m.model(1+m.Intn(3), names...); impl.Clear(p) || m.Intn(60) == 0 {
			return p
		}
	}
	return nil
}

func (m maker) attrDecl(s impl.Schema, n int) impl.AttrDecl {
	a := impl.AttrDecl{Name: "x" + strconv.Itoa(n), Type: m.place(len(s.Simples)), Required: m.Intn(2) == 0}
	if m.Intn(60) == 0 {
		a.Name = m.pick("xmlns", "x0", "", "p:x")
	}
	if isPlace(a.Type, len(s.Simples)) && (!a.Required && m.Intn(2) == 0 || m.Intn(60) == 0) {
		a.Default = m.defaultOf(s, a.Type)
	}
	return a
}

// defaultOf is mostly a text that has a value.
func (m maker) defaultOf(s impl.Schema, n int64) string {
	if !typesRight(s.Simples) {
		return "x"
	}
	for range 20 {
		text := m.kindText(primitiveOr(s.Simples, n))
		if hasDefault(s.Simples, n, text) || m.Intn(60) == 0 {
			return text
		}
	}
	return ""
}

func (m maker) decl(s impl.Schema, name string) impl.Decl {
	d := impl.Decl{Name: name, Kind: impl.TpSimple, Nillable: m.Intn(3) == 0}
	if len(s.Complexes) > 0 && m.Intn(2) == 0 {
		d.Kind, d.Type = impl.TpComplex, m.place(len(s.Complexes))
		if m.Intn(40) == 0 {
			d.Default = "x"
		}
		return d
	}
	d.Type = m.place(len(s.Simples))
	if isPlace(d.Type, len(s.Simples)) && m.Intn(2) == 0 {
		d.Default = m.defaultOf(s, d.Type)
	}
	return d
}

func TestSchemasAgainstTheList(t *testing.T) {
	m := maker{rand.New(rand.NewSource(101))}
	right := 0
	for range 6000 {
		s := m.schema()
		if !schemaRight(s) {
			wrongSchema(t, "made", s)
		} else {
			rightSchema(t, "made", s)
			right++
		}
		if t.Failed() {
			t.Fatalf("%+v", s)
		}
	}
	if right < 1500 || right > 5500 {
		t.Errorf("%d are right", right)
	}
}

// spareSchema gives the lists room behind them, with marks there.
func spareSchema(s impl.Schema) impl.Schema {
	out := impl.Schema{Simples: spareTypes(s.Simples)}
	out.Complexes = append(slices.Clone(s.Complexes), impl.Complex{Name: "behind"})[:len(s.Complexes)]
	out.Decls = append(slices.Clone(s.Decls), impl.Decl{Name: "behind"})[:len(s.Decls)]
	for i := range out.Complexes {
		c := &out.Complexes[i]
		c.Model = sparePt(c.Model)
		c.Attrs = append(slices.Clone(c.Attrs), impl.AttrDecl{Name: "behind"})[:len(c.Attrs)]
	}
	return out
}

// behindAll has the schema with what stands behind its lists.
func behindAll(s impl.Schema) impl.Schema {
	out := cloneSchema(impl.Schema{Simples: s.Simples[:len(s.Simples)+1], Complexes: s.Complexes[:len(s.Complexes)+1], Decls: s.Decls[:len(s.Decls)+1]})
	for i, one := range s.Simples {
		out.Simples[i].Members, out.Simples[i].Enum = slices.Clone(one.Members[:len(one.Members)+1]), slices.Clone(one.Enum[:len(one.Enum)+1])
	}
	for i, one := range s.Complexes {
		out.Complexes[i].Model, out.Complexes[i].Attrs = clonePt(one.Model[:len(one.Model)+1]), slices.Clone(one.Attrs[:len(one.Attrs)+1])
		for n, node := range one.Model {
			out.Complexes[i].Model[n].Kids = slices.Clone(node.Kids[:len(node.Kids)+1])
		}
	}
	return out
}

func TestSchemasAreLeftAsTheyAre(t *testing.T) {
	m := maker{rand.New(rand.NewSource(102))}
	for range 500 {
		s := spareSchema(m.schema())
		kept := behindAll(s)
		ok, place := impl.SchemaOk(s), impl.DeclOf(s, "a")
		list, has := impl.SchemaDoc(s)
		again, more := impl.SchemaDoc(s)
		if impl.SchemaOk(s) != ok || impl.DeclOf(s, "a") != place || has != more || !sameItems(list, again) {
			t.Fatalf("%+v answers in two ways", s)
		}
		if !sameSchema(behindAll(s), kept) {
			t.Fatalf("%+v was changed", kept)
		}
	}
}
