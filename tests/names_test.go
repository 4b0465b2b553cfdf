package tests

import (
	"maps"
	"math"
	"math/rand"
	"slices"
	"strings"
	"testing"

	"loop.example/g00262/impl"
)

const xmlSpace = "http://www.w3.org/XML/1998/namespace"

func qname(space, local string) impl.QName { return impl.QName{Space: space, Local: local} }

func parsed(t *testing.T, s string) []impl.Item {
	t.Helper()
	list, ok := impl.ParseDoc(s)
	if !ok {
		t.Fatalf("%q is no document", s)
	}
	return list
}

func TestNamesOfElements(t *testing.T) {
	long := strings.Repeat("p", impl.MaxName)
	for _, c := range []struct {
		s    string
		want []impl.QName
	}{
		{"<a/>", []impl.QName{qname("", "a")}},
		{"<a xmlns='u'/>", []impl.QName{qname("u", "a")}},
		{"<p:a xmlns:p='u'/>", []impl.QName{qname("u", "a")}},
		{"<p:a xmlns:p='u' xmlns='v'><b/><p:b/></p:a>", []impl.QName{qname("u", "a"), qname("v", "b"), qname("u", "b")}},
		{"<a xmlns:p='u'><b/></a>", []impl.QName{qname("", "a"), qname("", "b")}},
		{"<a xmlns='u'><b xmlns=''><c/></b><d/></a>", []impl.QName{qname("u", "a"), qname("", "b"), qname("", "c"), qname("u", "d")}},
		{"<a xmlns='u'><b xmlns=''><c xmlns='w'/></b></a>", []impl.QName{qname("u", "a"), qname("", "b"), qname("w", "c")}},
		{"<p:a xmlns:p='u'><p:b xmlns:p='w'><p:c/></p:b><p:d/></p:a>", []impl.QName{qname("u", "a"), qname("w", "b"), qname("w", "c"), qname("u", "d")}},
		{"<p:a xmlns:p='u'><b xmlns:p=''><p:c xmlns:p='w'/></b><p:d/></p:a>", []impl.QName{qname("u", "a"), qname("", "b"), qname("w", "c"), qname("u", "d")}},
		{"<a>x<b/>y</a>", []impl.QName{qname("", "a"), {}, qname("", "b"), {}}},
		{"<a xmlns='u'>x</a>", []impl.QName{qname("u", "a"), {}}},
		{"<xml:a/>", []impl.QName{qname(xmlSpace, "a")}},
		{"<xml:a xmlns:xml='u'><xml:b/></xml:a>", []impl.QName{qname(xmlSpace, "a"), qname(xmlSpace, "b")}},
		{"<xml:a xmlns:xml=''/>", []impl.QName{qname(xmlSpace, "a")}},
		{"<xml xmlns='u'/>", []impl.QName{qname("u", "xml")}},
		{"<xmlns:a xmlns:xmlns='u'/>", []impl.QName{qname("u", "a")}},
		{"<xmlns xmlns:xmlns='u'/>", []impl.QName{qname("", "xmlns")}},
		{"<P:a xmlns:p='u' xmlns:P='U'/>", []impl.QName{qname("U", "a")}},
		{"<p:a xmlns:p=' '/>", []impl.QName{qname(" ", "a")}},
		{"<p:a xmlns:p='é&amp;&#10;&lt;'/>", []impl.QName{qname("é&\n<", "a")}},
		{"<" + long + ":" + long + " xmlns:" + long + "='u'/>", []impl.QName{qname("u", long)}},
		{"<a p:xmlns='u' xmlns:p='v'><b/></a>", []impl.QName{qname("", "a"), qname("", "b")}},
	} {
		if names, ok := impl.NamesOf(parsed(t, c.s)); !ok || !slices.Equal(names, c.want) {
			t.Errorf("%s gave %v %v", c.s, names, ok)
		}
	}
}

func TestNamesOfRefuses(t *testing.T) {
	for _, s := range []string{
		"<p:a/>", "<p:a xmlns='u'/>", "<p:a xmlns:q='u'/>", "<p:a xmlns:p=''/>", "<P:a xmlns:p='u'/>", "<xmlns:a/>", "<XML:a/>", "<xmlns:a xmlns='u'/>",
		"<a xmlns:p='u'><p:b xmlns:p=''/></a>", "<a xmlns:p='u'><b xmlns:p=''><p:c/></b></a>", "<a><b xmlns:p='u'/><p:c/></a>", "<p:a><b xmlns:p='u'/></p:a>", "<a><b xmlns:p='u'>x</b><p:c/></a>",
		"<a p:x='1'/>", "<a xmlns:p='' p:x='1'/>", "<a><b><c p:x='1'/></b></a>", "<a xmlns:p='u'><b xmlns:p='' p:x='1'/></a>",
		"<a xmlns:p='u' xmlns:q='u' p:x='1' q:x='2'/>", "<a xmlns:p='u'><b xmlns:q='u' q:x='1' y='' p:x='1'/></a>", "<a xml:x='1' xmlns:p='" + xmlSpace + "' p:x='1'/>",
		"<a>x<b/><c xmlns:p='u' xmlns:q='u' q:z='' p:z=''/></a>",
	} {
		if names, ok := impl.NamesOf(parsed(t, s)); ok || len(names) != 0 {
			t.Errorf("%s gave %v", s, names)
		}
	}
}

func TestAttrNames(t *testing.T) {
	for _, c := range []struct {
		s    string
		n    int64
		want []impl.QName
	}{
		{"<a/>", 0, nil},
		{"<a>x</a>", 1, nil},
		{"<a xmlns='u' xmlns:p='v' xmlns:xmlns='w'/>", 0, nil},
		{"<a x='1' y='1'/>", 0, []impl.QName{qname("", "x"), qname("", "y")}},
		{"<a xmlns='u' x='1'/>", 0, []impl.QName{qname("", "x")}},
		{"<a p:x='1' xmlns='u' x='2' xmlns:p='v' q:x='3' xmlns:q='w'/>", 0, []impl.QName{qname("v", "x"), qname("", "x"), qname("w", "x")}},
		{"<p:a xmlns='u' xmlns:p='u' x='1' p:x='2'/>", 0, []impl.QName{qname("", "x"), qname("u", "x")}},
		{"<a xmlns:p='u'><b xmlns:p='w' p:x='1'/></a>", 1, []impl.QName{qname("w", "x")}},
		{"<a xmlns:p='u' p:x='1'><b xmlns:p='' x='1'/></a>", 0, []impl.QName{qname("u", "x")}},
		{"<a xmlns:p='u' p:x='1'><b xmlns:p='' x='1'/></a>", 1, []impl.QName{qname("", "x")}},
		{"<a xmlns:p='u'><b><c p:x='1' p:y='2'/></b></a>", 2, []impl.QName{qname("u", "x"), qname("u", "y")}},
		{"<a xml:x='1' xmlns:xml='u'/>", 0, []impl.QName{qname(xmlSpace, "x")}},
		{"<a p:xmlns='1' xmlns:p='u'/>", 0, []impl.QName{qname("u", "xmlns")}},
		{"<a xmlnsx='1' XMLNS='2' xml='3'/>", 0, []impl.QName{qname("", "xmlnsx"), qname("", "XMLNS"), qname("", "xml")}},
		{"<p:a x='1'/>", 0, []impl.QName{qname("", "x")}}, // the element's own prefix is not asked for
		{"<a p:x='1'><b y='2'/></a>", 1, []impl.QName{qname("", "y")}},
	} {
		if names, ok := impl.AttrNames(parsed(t, c.s), c.n); !ok || !slices.Equal(names, c.want) {
			t.Errorf("%s at %d gave %v %v", c.s, c.n, names, ok)
		}
	}
}

func TestAttrNamesRefuses(t *testing.T) {
	for _, c := range []struct {
		s string
		n int64
	}{
		{"<a p:x='1'/>", 0}, {"<a x='1' p:x='1'/>", 0}, {"<a xmlns:p='' p:x='1'/>", 0}, {"<a xmlns='u' p:x='1'/>", 0}, {"<a xmlns:q='u' p:x='1'/>", 0},
		{"<a><b xmlns:p='u'/><c p:x='1'/></a>", 2}, {"<a xmlns:p='u'><b xmlns:p='' p:x='1'/></a>", 1}, {"<a p:x='1'><b xmlns:p='u'/></a>", 0},
		{"<a xmlns:p='u' xmlns:q='u' p:x='1' q:x='2'/>", 0}, {"<a xmlns:p='u' xmlns:q='u' p:x='1' y='1' x='1' q:x='2'/>", 0},
		{"<a xml:x='1' p:x='2' xmlns:p='" + xmlSpace + "'/>", 0},
	} {
		if names, ok := impl.AttrNames(parsed(t, c.s), c.n); ok || len(names) != 0 {
			t.Errorf("%s at %d gave %v", c.s, c.n, names)
		}
	}
}

func TestBoundAt(t *testing.T) {
	list := parsed(t, "<a xmlns='d' xmlns:p='u' xmlns:q='v'><b xmlns='' xmlns:p=''>t<c xmlns:p='w' xmlns:q='v2'/></b><e>s</e></a>")
	for _, c := range []struct {
		n      int64
		prefix string
		space  string
		ok     bool
	}{
		{0, "", "d", true}, {0, "p", "u", true}, {0, "q", "v", true}, {0, "r", "", false},
		{1, "", "", true}, {1, "p", "", false}, {1, "q", "v", true},
		{2, "", "", true}, {2, "p", "", false}, {2, "q", "v", true}, {2, "r", "", false},
		{3, "", "", true}, {3, "p", "w", true}, {3, "q", "v2", true},
		{4, "", "d", true}, {4, "p", "u", true}, {5, "", "d", true}, {5, "p", "u", true}, {5, "q", "v", true},
		{0, "xml", xmlSpace, true}, {2, "xml", xmlSpace, true}, {5, "xml", xmlSpace, true},
		{0, "xmlns", "", false}, {0, "P", "", false}, {0, "p:p", "", false}, {0, ":p", "", false}, {0, "p ", "", false}, {0, " ", "", false}, {0, "1", "", false}, {0, "\xff", "", false},
		{0, "xmlns:p", "", false}, {0, "xml:", "", false},
		{-1, "", "", false}, {-1, "xml", "", false}, {6, "", "", false}, {6, "xml", "", false}, {6, "p", "", false},
		{math.MinInt64, "xml", "", false}, {math.MaxInt64, "xml", "", false},
	} {
		if space, ok := impl.BoundAt(list, c.n, c.prefix); ok != c.ok || space != c.space {
			t.Errorf("%q at %d: %q %v", c.prefix, c.n, space, ok)
		}
	}
	own := parsed(t, "<a xmlns:xml='u' xmlns:xmlns='v' p:xmlns='w' xmlns:p='y'/>")
	for prefix, want := range map[string]string{"xml": xmlSpace, "xmlns": "v", "": "", "p": "y"} {
		if space, ok := impl.BoundAt(own, 0, prefix); !ok || space != want {
			t.Errorf("%q: %q %v", prefix, space, ok)
		}
	}
	if space, ok := impl.BoundAt([]impl.Item{elem(-1, "a")}, 0, ""); !ok || space != "" {
		t.Error(space, ok)
	}
}

func TestNamesOfWrongDocuments(t *testing.T) {
	for what, list := range wrongDocs() {
		if names, ok := impl.NamesOf(list); ok || len(names) != 0 {
			t.Errorf("%s: %v", what, names)
		}
		for n := int64(-1); n < 4; n++ {
			if names, ok := impl.AttrNames(list, n); ok || len(names) != 0 {
				t.Errorf("%s: %v", what, names)
			}
			for _, prefix := range []string{"", "xml", "p"} {
				if space, ok := impl.BoundAt(list, n, prefix); ok || space != "" {
					t.Errorf("%s: %q", what, space)
				}
			}
		}
	}
	list := parsed(t, "<a x='1'>t</a>")
	for _, n := range []int64{-2, -1, 2, 3, math.MinInt64, math.MaxInt64} {
		if names, ok := impl.AttrNames(list, n); ok || len(names) != 0 {
			t.Error(n, names)
		}
	}
}

func TestNamesOfRightDocuments(t *testing.T) {
	for what, list := range rightDocs() {
		names, ok := impl.NamesOf(list)
		if d := descend(list); ok != d.ok || ok && !slices.Equal(names, d.names) {
			t.Errorf("%s: %v %v", what, names, ok)
		}
	}
	bound := wide(impl.MaxItems)
	bound[0].Attrs = []impl.Attr{attr("xmlns", "u")}
	names, ok := impl.NamesOf(bound)
	if !ok || len(names) != impl.MaxItems || names[impl.MaxItems-1] != qname("u", "b") {
		t.Error("wide", ok)
	}
	bound = chain(impl.MaxDeep)
	bound[0].Attrs = []impl.Attr{attr("xmlns:p", "u")}
	bound[impl.MaxDeep-1].Name = "p:z"
	names, ok = impl.NamesOf(bound)
	if !ok || names[impl.MaxDeep-1] != qname("u", "z") {
		t.Error("deep", names, ok)
	}
}

// A descent hands what is bound down from element to element, the other way round than to look for it upwards.
type descent struct {
	list  []impl.Item
	names []impl.QName
	attrs [][]impl.QName
	bound []map[string]string // what is bound at each item; a prefix that is not bound is not there
	bad   []bool              // of which items AttrNames is false
	ok    bool
}

func (d *descent) below(n int64, above map[string]string) {
	item := d.list[n]
	here := maps.Clone(above)
	for _, a := range item.Attrs {
		rest, found := strings.CutPrefix(a.Name, "xmlns:")
		switch {
		case a.Name == "xmlns":
			here[""] = a.Value
		case found && rest != "xml" && a.Value == "":
			delete(here, rest)
		case found && rest != "xml":
			here[rest] = a.Value
		}
	}
	d.bound[n] = here
	d.attrs[n], d.bad[n] = d.attrsAt(item.Attrs, here)
	if item.Name != "" {
		var ok bool
		d.names[n], ok = expand(item.Name, here)
		d.ok = d.ok && ok && !d.bad[n]
	}
	for i := range d.list {
		if d.list[i].Up == n {
			d.below(int64(i), here)
		}
	}
}

func expand(name string, here map[string]string) (impl.QName, bool) {
	at := strings.IndexByte(name, ':')
	space, ok := here[name[:max(at, 0)]]
	return qname(space, name[at+1:]), ok
}

func (d *descent) attrsAt(attrs []impl.Attr, here map[string]string) ([]impl.QName, bool) {
	var out []impl.QName
	seen := map[impl.QName]bool{}
	for _, a := range attrs {
		if a.Name == "xmlns" || strings.HasPrefix(a.Name, "xmlns:") {
			continue
		}
		name, ok := qname("", a.Name), true
		if strings.Contains(a.Name, ":") {
			name, ok = expand(a.Name, here)
		}
		if !ok || seen[name] {
			return nil, true
		}
		seen[name] = true
		out = append(out, name)
	}
	return out, false
}

func descend(list []impl.Item) *descent {
	n := len(list)
	d := &descent{list: list, names: make([]impl.QName, n), attrs: make([][]impl.QName, n), bound: make([]map[string]string, n), bad: make([]bool, n), ok: true}
	d.below(0, map[string]string{"": "", "xml": xmlSpace})
	return d
}

// bindingDoc is a document with prefixes that are bound, bound anew and taken away here and there.
func (m maker) bindingDoc() []impl.Item {
	list := m.doc()
	for i := range list {
		if list[i].Name == "" {
			continue
		}
		prefix := m.pick("", "", "", "p:", "p:", "q:", "xml:")
		if m.Intn(50) == 0 {
			prefix = "xmlns:"
		}
		list[i].Name = prefix + m.pick("a", "b")
		list[i].Attrs = nil
		for range m.Intn(4) {
			name := m.pick("xmlns", "xmlns:p", "xmlns:p", "xmlns:q", "xmlns:xml", "xmlns:xmlns", "x", "y", "p:x", "p:y", "q:x", "xml:x", "p:xmlns")
			if !slices.ContainsFunc(list[i].Attrs, func(a impl.Attr) bool { return a.Name == name }) {
				list[i].Attrs = append(list[i].Attrs, attr(name, m.pick("", "u", "u", "v", "w", xmlSpace)))
			}
		}
	}
	if m.Intn(4) > 0 {
		list[0].Attrs = []impl.Attr{attr("xmlns:p", "u"), attr("xmlns:q", "v"), attr("xmlns:z", "z")}
	}
	return list
}

func TestNamesAreWhatIsHandedDown(t *testing.T) {
	m := maker{rand.New(rand.NewSource(3))}
	taken := 0
	for range 2000 {
		list := m.bindingDoc()
		if !impl.DocOk(list) {
			t.Fatalf("not right: %v", list)
		}
		d := descend(list)
		names, ok := impl.NamesOf(list)
		if ok != d.ok || ok && !slices.Equal(names, d.names) || !ok && len(names) != 0 {
			t.Fatalf("%v gave %v %v", list, names, ok)
		}
		if ok {
			taken++
		}
		for i := range list {
			sameAt(t, list, int64(i), d)
		}
	}
	if taken < 500 {
		t.Error("too few had names:", taken)
	}
}

// sameAt holds the answers at one item against a descent's, and against those at the item above it.
func sameAt(t *testing.T, list []impl.Item, n int64, d *descent) {
	t.Helper()
	attrs, ok := impl.AttrNames(list, n)
	if ok == d.bad[n] || !slices.Equal(attrs, d.attrs[n]) {
		t.Fatalf("%v: attributes of %d: %v %v", list, n, attrs, ok)
	}
	for _, prefix := range []string{"", "p", "q", "z", "xml", "xmlns", "r"} {
		space, ok := impl.BoundAt(list, n, prefix)
		if want, wantOk := d.bound[n][prefix]; space != want || ok != wantOk {
			t.Fatalf("%v: %q at %d: %q %v", list, prefix, n, space, ok)
		}
		binds := slices.ContainsFunc(list[n].Attrs, func(a impl.Attr) bool { return a.Name == strings.TrimSuffix("xmlns:"+prefix, ":") })
		if binds || n == 0 {
			continue
		}
		if above, aboveOk := impl.BoundAt(list, list[n].Up, prefix); above != space || aboveOk != ok {
			t.Fatalf("%v: %q at %d is not as above: %q %v", list, prefix, n, space, ok)
		}
	}
}

func TestNamesLeaveTheirArguments(t *testing.T) {
	attrs := []impl.Attr{attr("xmlns:p", "u"), attr("p:x", "1"), attr("y", "2"), attr("spare", "room")}
	room := []impl.Item{elem(-1, "p:a", attrs[:3]...), text(0, "x"), elem(0, "b"), elem(77, "spare")}
	kept, keptAttrs := cloneItems(room), slices.Clone(attrs)
	list := room[:3]
	one, _ := impl.NamesOf(list)
	two, _ := impl.NamesOf(list)
	a, _ := impl.AttrNames(list, 0)
	b, _ := impl.AttrNames(list, 0)
	impl.BoundAt(list, 2, "p")
	one[0], a[0] = qname("z", "z"), qname("z", "z")
	if two[0] != qname("u", "a") || b[0] != qname("u", "x") {
		t.Error("shared memory")
	}
	if !sameItems(room, kept) || !slices.Equal(attrs, keptAttrs) {
		t.Error(room, attrs)
	}
}
