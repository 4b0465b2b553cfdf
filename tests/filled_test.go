package tests

import (
	"fmt"
	"slices"
	"strings"
	"testing"

	"loop.example/g00262/impl"
)

// filledBy tells a valid document anew, element by element, with what the schema gives.
func filledBy(s impl.Schema, list []impl.Item) []impl.Item {
	var out []impl.Item
	var tell func(n int, up int64)
	tell = func(n int, up int64) {
		here := int64(len(out))
		item := impl.Item{Up: up, Name: list[n].Name, Text: list[n].Text, Attrs: slices.Clone(list[n].Attrs)}
		mark := markBy(s, list, n)
		if mark.Decl != -1 && s.Decls[mark.Decl].Kind == impl.TpComplex {
			for _, a := range s.Complexes[s.Decls[mark.Decl].Type].Attrs {
				if _, there := attrIn(list[n].Attrs, a.Name); !there && a.Default != "" {
					item.Attrs = append(item.Attrs, attr(a.Name, a.Default))
				}
			}
		}
		out = append(out, item)
		if mark.Given {
			out = append(out, text(here, s.Decls[mark.Decl].Default))
		}
		for kid := range list {
			if list[kid].Up == int64(n) {
				tell(kid, here)
			}
		}
	}
	tell(0, -1)
	return out
}

// valuesOf are the values of the elements, with which of them are nil.
func valuesOf(list []impl.Item, marks []impl.Mark) []string {
	var values []string
	for n, item := range list {
		if item.Name != "" {
			values = append(values, fmt.Sprintf("%s %d %v %q", item.Name, marks[n].Decl, marks[n].Nil, marks[n].Value))
		}
	}
	return values
}

// filledOf holds Filled against the chapter's words, and against promise 12.
func filledOf(t *testing.T, s impl.Schema, list []impl.Item) ([]impl.Item, bool) {
	t.Helper()
	filled, ok := impl.Filled(s, list)
	marks, code := impl.Assess(s, list)
	var want []impl.Item
	if code == impl.AsValid {
		want = filledBy(s, list)
	}
	words, _ := impl.PrintDoc(list)
	if right := code == impl.AsValid && impl.DocOk(want); ok != right || ok && !sameItems(filled, want) || !ok && len(filled) != 0 {
		t.Fatalf("%s is filled as %+v, %v, not %+v, %v", words, filled, ok, want, right)
	}
	if !ok {
		return nil, false
	}
	filledMarks, code := impl.Assess(s, filled)
	if code != impl.AsValid || !slices.Equal(valuesOf(list, marks), valuesOf(filled, filledMarks)) {
		t.Fatalf("%s when filled is %+v, %d", words, filledMarks, code)
	}
	for _, mark := range filledMarks {
		if mark.Given {
			t.Fatalf("%s when filled is given something", words)
		}
	}
	if again, ok := impl.Filled(s, filled); !ok || !sameItems(again, filled) {
		t.Fatalf("%s is filled again as %+v, %v", words, again, ok)
	}
	return filled, true
}

func TestFilled(t *testing.T) {
	s := house(t)
	for _, c := range [][2]string{
		{`<c x='1'> <a> 07 </a><b/></c>`, `<c x="1" y="one" z="1"> <a> 07 </a><b>two</b></c>`},
		{`<c x='1' y=''><a>1</a></c>`, `<c x="1" y="" z="1"><a>1</a></c>`},
		{`<c z='2' x='1'><a>1</a></c>`, `<c z="2" x="1" y="one"><a>1</a></c>`},
		{`<c z='2' y='one' x='1'><a>1</a></c>`, `<c z="2" y="one" x="1"><a>1</a></c>`},
		{`<c xsi:nil='1' x='1' xmlns='u'/>`, `<c xsi:nil="1" x="1" xmlns="u" y="one" z="1"/>`},
		{`<c xmlns:y='u' x='1'><a>1</a></c>`, `<c xmlns:y="u" x="1" y="one" z="1"><a>1</a></c>`},
		{`<g/>`, `<g xsi="1"/>`},
		{`<g nil='5'><b/></g>`, `<g nil="5" xsi="1"><b>two</b></g>`},
		{`<d> </d>`, `<d> </d>`},
		{`<a>1</a>`, `<a>1</a>`},
		{`<a xsi:nil='1'/>`, `<a xsi:nil="1"/>`},
		{`<i xsi:nil='1'/>`, `<i xsi:nil="1"/>`},
		{`<i xsi:nil='0'/>`, `<i xsi:nil="0"> 07 </i>`},
		{`<i/>`, `<i> 07 </i>`},
		{`<l/>`, `<l> </l>`},
		{`<m/>`, `<m>+1</m>`},
		{`<n xmlns='u'/>`, "<n xmlns=\"u\">\tx\n</n>"},
		{`<h/>`, `<h/>`},
		{`<b></b>`, `<b>two</b>`},
		{`<b>&#13;</b>`, `<b>&#13;</b>`},
		{`<f><f><b/></f>x<b/><f><g><b/></g><b/></f>y<g/></f>`, `<f><f><b>two</b></f>x<b>two</b><f><g xsi="1"><b>two</b></g><b>two</b></f>y<g xsi="1"/></f>`},
		{`<f><b/><b/><b>x</b><b/></f>`, `<f><b>two</b><b>two</b><b>x</b><b>two</b></f>`},
	} {
		filled, ok := filledOf(t, s, parsed(t, c[0]))
		if words, _ := impl.PrintDoc(filled); !ok || words != c[1] {
			t.Errorf("%s: %s, %v", c[0], words, ok)
		}
	}
	// The places move by what was put in ahead of them.
	want := []impl.Item{elem(-1, "f"), elem(0, "f"), elem(1, "b"), text(2, "two"), elem(0, "f"), elem(4, "g", attr("xsi", "1")), elem(4, "b"), text(6, "x")}
	if filled, ok := filledOf(t, s, parsed(t, "<f><f><b/></f><f><g/><b>x</b></f></f>")); !ok || !sameItems(filled, want) {
		t.Errorf("%+v, %v", filled, ok)
	}
}

func TestFilledRefuses(t *testing.T) {
	s := house(t)
	for _, doc := range []string{"<q/>", "<c/>", "<a/>", "<b q='1'/>", "<b xsi:nil='0'/>", "<f><b/><a>x</a></f>", "<f><b/><q/></f>", "<d>x</d>", "<a xsi:nil='1'> </a>", "<g><b/><a>1</a></g>"} {
		if filled, ok := filledOf(t, s, parsed(t, doc)); ok || len(filled) != 0 {
			t.Errorf("%s is filled: %+v", doc, filled)
		}
	}
}

// given is a schema of an element r with any below it, mixed, with so many attributes that have a Default, and an element b that is filled.
func given(attrs int, words string) impl.Schema {
	s := impl.Schema{
		Simples:   []impl.Simple{simple("text", impl.SmText)},
		Complexes: []impl.Complex{{Name: "t", Model: ptSeq(0, ptAny(impl.OcStar)), Mixed: true}, {Name: "u", Model: ptSeq(0, ptAny(impl.OcStar))}},
		Decls:     []impl.Decl{complexDecl("r", 0), {Name: "b", Kind: impl.TpSimple, Default: words}, complexDecl("s", 1)},
	}
	for _, name := range namesFrom("y", attrs) {
		s.Complexes[0].Attrs = append(s.Complexes[0].Attrs, impl.AttrDecl{Name: name, Default: "d" + name})
	}
	return s
}

func TestFilledWithManyAttributes(t *testing.T) {
	for declared := range impl.MaxAttrs + 1 {
		for there := range impl.MaxAttrs + 1 {
			var own []impl.Attr
			for _, name := range namesFrom("xmlns:p", there) {
				own = append(own, attr(name, "u"))
			}
			filled, ok := filledOf(t, given(declared, "x"), []impl.Item{elem(-1, "r", own...)})
			if ok != (declared+there <= impl.MaxAttrs) {
				t.Errorf("%d and %d: %v", declared, there, ok)
			}
			for i, name := range namesFrom("y", declared) {
				if ok && filled[0].Attrs[there+i] != attr(name, "d"+name) {
					t.Errorf("%d and %d: %+v", declared, there, filled)
				}
			}
		}
	}
	// Those that are there need no room.
	s := given(impl.MaxAttrs, "x")
	var own []impl.Attr
	for _, name := range slices.Backward(namesFrom("y", impl.MaxAttrs)) {
		own = append(own, attr(name, ""))
	}
	for there := range impl.MaxAttrs + 1 {
		filled, ok := filledOf(t, s, []impl.Item{elem(-1, "s"), elem(0, "r", own[:there]...)})
		if !ok || len(filled[1].Attrs) != impl.MaxAttrs || !slices.Equal(filled[1].Attrs[:there], own[:there]) {
			t.Errorf("%d: %+v, %v", there, filled, ok)
		}
	}
}

func TestFilledWithManyItems(t *testing.T) {
	for _, c := range []struct {
		items, empty int
		ok           bool
	}{{impl.MaxItems, 0, true}, {impl.MaxItems, 1, false}, {impl.MaxItems - 1, 1, true}, {impl.MaxItems - 1, 2, false}, {101, 100, false}, {101, 99, true}, {100, 99, true}, {impl.MaxItems, 199, false}} {
		list := []impl.Item{elem(-1, "r")}
		for len(list) < c.items {
			list = append(list, elem(0, map[bool]string{true: "b", false: "r"}[len(list) <= c.empty]))
		}
		filled, ok := filledOf(t, given(0, "x"), list)
		if ok != c.ok || ok && len(filled) != c.items+c.empty {
			t.Errorf("%+v: %d, %v", c, len(filled), ok)
		}
	}
}

func TestFilledWithManyBytes(t *testing.T) {
	// The names r and b have two bytes.
	for spare := -3; spare <= 3; spare++ {
		words := strings.Repeat("x", maxBytes-2-10)
		list := []impl.Item{elem(-1, "r"), text(0, words), elem(0, "b")}
		if _, ok := filledOf(t, given(0, strings.Repeat("y", 10-spare)), list); ok != (spare >= 0) {
			t.Errorf("a text with %d bytes to spare: %v", spare, ok)
		}
		// An attribute y0 is given dy0: five bytes.
		list = []impl.Item{elem(-1, "r"), text(0, strings.Repeat("x", maxBytes-1-5-spare))}
		if _, ok := filledOf(t, given(1, "x"), list); ok != (spare >= 0) {
			t.Errorf("an attribute with %d bytes to spare: %v", spare, ok)
		}
	}
	for _, many := range []int{maxBytes - 1, maxBytes} {
		if _, ok := filledOf(t, given(0, strings.Repeat("x", many)), []impl.Item{elem(-1, "b")}); ok != (many < maxBytes) {
			t.Errorf("%d bytes: %v", many, ok)
		}
	}
}

func TestFilledAsDeepAsMayBe(t *testing.T) {
	for deep := 1; deep <= impl.MaxDeep; deep++ {
		list := chain(deep)
		for i := range list {
			list[i].Name = "s"
		}
		if _, ok := filledOf(t, given(0, "x"), list); !ok {
			t.Errorf("%d with nothing to fill", deep)
		}
		list[deep-1].Name = "b"
		if _, ok := filledOf(t, given(0, "x"), list); ok != (deep < impl.MaxDeep) {
			t.Errorf("%d with a text to fill: %v", deep, ok)
		}
	}
}
