package tests

import (
	"math"
	"math/rand"
	"regexp"
	"slices"
	"strings"
	"testing"

	"loop.example/g00262/impl"
)

const oneName = `[A-Za-z_][-A-Za-z0-9_.]{0,39}`

var (
	pathForm  = regexp.MustCompile(`\A(//)?` + oneName + `(/` + oneName + `){0,5}\z`)
	fieldForm = regexp.MustCompile(`\A(?:\.|(` + oneName + `(?:/` + oneName + `){0,5})|(?:(` + oneName + `(?:/` + oneName + `){0,5})/)?@(` + oneName + `))\z`)
)

func isElement(list []impl.Item, n int64) bool {
	return impl.DocOk(list) && isPlace(n, len(list)) && list[n].Name != ""
}

// selectedBy goes up from each element, against the path's names from the last one on.
func selectedBy(list []impl.Item, n int64, path string) []int64 {
	if !isElement(list, n) || !pathForm.MatchString(path) {
		return nil
	}
	names, deep := strings.CutPrefix(path, "//")
	var places []int64
	for i, item := range list {
		at, fits := int64(i), item.Name != ""
		for _, name := range slices.Backward(strings.Split(names, "/")) {
			if fits = fits && at != -1 && list[at].Name == name; fits {
				at = list[at].Up
			}
		}
		if fits && (at == n || deep && liesBelow(list, at, n)) {
			places = append(places, int64(i))
		}
	}
	return places
}

// fieldBy finds the elements by selectedBy, and their values one by one.
func fieldBy(list []impl.Item, n int64, path string) (string, int64) {
	parts := fieldForm.FindStringSubmatch(path)
	if parts == nil || !isElement(list, n) {
		return "", -1
	}
	places := []int64{n}
	if way := parts[1] + parts[2]; way != "" {
		places = selectedBy(list, n, way)
	}
	value, many := "", int64(0)
	for _, at := range places {
		if parts[3] == "" {
			value, _ = impl.TextOf(list, at)
			many++
		}
		for _, a := range list[at].Attrs {
			if a.Name == parts[3] {
				value = a.Value
				many++
			}
		}
	}
	if many != 1 {
		return "", many
	}
	return whiteOf(value, 2), 1
}

func sameSelected(t *testing.T, list []impl.Item, n int64, path string) []int64 {
	t.Helper()
	got := impl.Select(list, n, path)
	if want := selectedBy(list, n, path); !slices.Equal(got, want) {
		words, _ := impl.PrintDoc(list)
		t.Fatalf("%.80q from %d of %s leads to %v, not %v", path, n, words, got, want)
	}
	name := path[strings.LastIndex(path, "/")+1:]
	for i, at := range got {
		if at <= n || !liesBelow(list, at, n) || list[at].Name != name || i > 0 && at <= got[i-1] {
			t.Fatalf("%q from %d leads to %v", path, n, got)
		}
	}
	return got
}

func sameField(t *testing.T, list []impl.Item, n int64, path string) (string, int64) {
	t.Helper()
	value, many := impl.FieldOf(list, n, path)
	if wantValue, want := fieldBy(list, n, path); value != wantValue || many != want {
		words, _ := impl.PrintDoc(list)
		t.Fatalf("the field %.80q of %d of %s is %q, %d, not %q, %d", path, n, words, value, many, wantValue, want)
	}
	return value, many
}

func TestPaths(t *testing.T) {
	long := strings.Repeat("n", impl.MaxName)
	for _, path := range []string{"a", "a/b", "//a", "//a/b", "_/Z/a.1-", long, "//" + strings.Repeat(long+"/", 5) + long, "a/b/c/d/e/f", "//a/b/c/d/e/f", "a/a/a/a/a/a", "xmlns", "a.", "a-/b."} {
		if !impl.PathOk(path) || !pathForm.MatchString(path) {
			t.Errorf("%q is refused", path)
		}
	}
	for _, path := range []string{
		"", "/", "//", "///", "////", "/a", "a/", "/a/", "//a/", "///a", "////a", "a//b", "//a//b", "a//", "a/b//", "a/b/c/d/e/f/g", "//a/b/c/d/e/f/g", "a/b/c/d/e/f/", long + "n", "a/" + long + "n",
		".", "./a", "a/.", "..", "a/..", "@a", "a/@b", "a@b", "//@a", "*", "a/*", "p:a", "//p:a", "a/p:b", ":a", " a", "a ", "a /b", "a/ b", "// a", "a|b", "a[1]", "1", "a/1", "-", "é", "a\x00", "\xff", "a\n", "\\a", "a\\b",
		strings.Repeat("a/", impl.MaxText/2), strings.Repeat("a/", impl.MaxText/2) + "a", strings.Repeat("a", impl.MaxText), strings.Repeat("a", impl.MaxText+1), strings.Repeat("/", impl.MaxText), strings.Repeat("/", 1<<20), "//" + strings.Repeat("a", impl.MaxText),
	} {
		if impl.PathOk(path) || pathForm.MatchString(path) {
			t.Errorf("%.80q is a path", path)
		}
		list := parsed(t, "<a><a/><b/></a>")
		if got := impl.Select(list, 0, path); len(got) != 0 {
			t.Errorf("%.80q leads to %v", path, got)
		}
	}
}

func TestEachShortPathAndField(t *testing.T) {
	list := parsed(t, "<a a='1'><a a=' 2'><a/>x</a><b a='3' b=''>y</b></a>")
	signs := []string{"a", "b", "/", "@", ".", "1", ":"}
	texts := []string{""}
	paths, fields := 0, 0
	for range 7 {
		var longer []string
		for _, s := range texts {
			if got := impl.PathOk(s); got != pathForm.MatchString(s) {
				t.Fatalf("%q: %v", s, got)
			} else if got {
				paths++
			}
			sameSelected(t, list, 0, s)
			if _, many := sameField(t, list, 0, s); many != -1 {
				fields++
			}
			if len(s) == 6 {
				continue
			}
			for _, sign := range signs {
				longer = append(longer, s+sign)
			}
		}
		texts = longer
	}
	if paths < 1000 || fields < 1000 {
		t.Errorf("%d paths, %d fields", paths, fields)
	}
}

func TestSelect(t *testing.T) {
	// The places: r 0, a 1, b 2, x 3, a 4, b 5, p:a 6, b 7, c 8, y 9.
	list := parsed(t, "<r><a i='1'><b>x<a><b/></a></b></a><p:a><b/></p:a><c>y</c></r>")
	for _, c := range []struct {
		n    int64
		path string
		want []int64
	}{
		{0, "a", []int64{1}},
		{0, "b", nil},
		{0, "r", nil},
		{0, "//r", nil},
		{0, "a/b", []int64{2}},
		{0, "a/b/a", []int64{4}},
		{0, "a/b/a/b", []int64{5}},
		{0, "//a", []int64{1, 4}},
		{0, "//b", []int64{2, 5, 7}},
		{0, "//a/b", []int64{2, 5}},
		{0, "//b/a/b", []int64{5}},
		{0, "//b/a", []int64{4}},
		{0, "//a/b/a/b", []int64{5}},
		{0, "//c", []int64{8}},
		{0, "//p", nil},
		{1, "b", []int64{2}},
		{1, "a", nil},
		{1, "//a", []int64{4}},
		{1, "//b", []int64{2, 5}},
		{1, "//c", nil},
		{2, "a/b", []int64{5}},
		{4, "b", []int64{5}},
		{5, "//b", nil},
		{6, "b", []int64{7}},
		{8, "//a", nil},
		{3, "a", nil},
		{3, "//a", nil},
		{9, "//a", nil},
	} {
		if got := sameSelected(t, list, c.n, c.path); !slices.Equal(got, c.want) {
			t.Errorf("%s from %d leads to %v", c.path, c.n, got)
		}
	}
}

func TestSelectOneBelowTheOther(t *testing.T) {
	deep := chain(impl.MaxDeep)
	for n := range int64(impl.MaxDeep) {
		for i := range 6 {
			path := "a" + strings.Repeat("/a", i)
			direct, far := sameSelected(t, deep, n, path), sameSelected(t, deep, n, "//"+path)
			if want := max(0, impl.MaxDeep-int(n)-i-1); len(far) != want || len(direct) != min(1, want) {
				t.Errorf("%s from %d leads to %v, and with // to %v", path, n, direct, far)
			}
		}
	}
	broad := wide(impl.MaxItems)
	if got := sameSelected(t, broad, 0, "b"); len(got) != impl.MaxItems-1 {
		t.Errorf("%d kids", len(got))
	}
	if got := sameSelected(t, broad, 0, "//b"); len(got) != impl.MaxItems-1 {
		t.Errorf("%d below", len(got))
	}
	// The kids of an outer element stand behind those of an inner one: the places must rise all the same.
	turned := parsed(t, "<a><a><a><b/></a><b/></a><b/><a><b/></a></a>")
	if got := sameSelected(t, turned, 0, "//a/b"); !slices.Equal(got, []int64{3, 4, 7}) {
		t.Error(got)
	}
	if got := sameSelected(t, turned, 0, "//b"); !slices.Equal(got, []int64{3, 4, 5, 7}) {
		t.Error(got)
	}
}

func TestFields(t *testing.T) {
	// The places: r 0, a 1, x 2, b 3, b 4, y 5, a blank 6, c 7.
	list := parsed(t, "<r><a i=' 1&#10; 2 ' p:i='3'>x<b j=''/><b j='q'>y\t z</b></a> <c p:i='5' i=''/></r>")
	for _, c := range []struct {
		n     int64
		path  string
		value string
		many  int64
	}{
		{0, ".", "", 1},
		{0, "a", "x", 1},
		{0, "a/b", "", 2},
		{0, "a/b/b", "", 0},
		{0, "b", "", 0},
		{0, "c", "", 1},
		{0, "@i", "", 0},
		{0, "a/@i", "1 2", 1},
		{0, "a/@j", "", 0},
		{0, "a/b/@j", "", 2},
		{0, "c/@i", "", 1},
		{0, "r", "", 0},
		{1, ".", "x", 1},
		{1, "@i", "1 2", 1},
		{1, "@I", "", 0},
		{1, "@j", "", 0},
		{1, "b/@j", "", 2},
		{1, "b", "", 2},
		{3, ".", "", 1},
		{3, "@j", "", 1},
		{4, ".", "y z", 1},
		{4, "@j", "q", 1},
		{4, "@i", "", 0},
		// As it is written: an attribute or an element with a colon has no name of its own there.
		{0, "a/@p:i", "", -1},
		{1, "@p:i", "", -1},
		{7, "@i", "", 1},
		{7, "@p", "", 0},
		{0, "p:a", "", -1},
		// no fields, and no elements
		{0, "", "", -1},
		{0, "//a", "", -1},
		{0, "//a/@i", "", -1},
		{0, "//@i", "", -1},
		{0, "/@i", "", -1},
		{0, "./@i", "", -1},
		{0, "a@i", "", -1},
		{0, "a/", "", -1},
		{0, "a//@i", "", -1},
		{0, "a/@i/b", "", -1},
		{0, "@", "", -1},
		{0, "a/@", "", -1},
		{0, "@@i", "", -1},
		{0, "@i@j", "", -1},
		{0, "@1", "", -1},
		{0, "@*", "", -1},
		{0, "..", "", -1},
		{0, "a/.", "", -1},
		{0, " .", "", -1},
		{0, "@i ", "", -1},
		{0, "a /@i", "", -1},
		{2, ".", "", -1},
		{5, ".", "", -1},
		{6, "@i", "", -1},
		{8, ".", "", -1},
		{-1, ".", "", -1},
	} {
		if value, many := sameField(t, list, c.n, c.path); value != c.value || many != c.many {
			t.Errorf("%s of %d is %q, %d", c.path, c.n, value, many)
		}
	}
}

func TestTextsOfFields(t *testing.T) {
	for _, c := range []struct{ s, value string }{
		{"<a/>", ""}, {"<a> </a>", ""}, {"<a>\n\t&#13; </a>", ""}, {"<a> x </a>", "x"}, {"<a>x<b>y</b>z</a>", "xz"}, {"<a>x <b>y</b> z</a>", "x z"}, {"<a><b>y</b></a>", ""}, {"<a>x&#13;&#10;y\t\tz</a>", "x y z"},
		{"<a>é\u00a0 \u00a0</a>", "é\u00a0 \u00a0"}, {"<a>&lt;&amp;</a>", "<&"}, {"<a>x<!-- r -->y</a>", "xy"},
	} {
		list := parsed(t, c.s)
		if value, many := sameField(t, list, 0, "."); value != c.value || many != 1 {
			t.Errorf("%s: %q, %d", c.s, value, many)
		}
		above := parsed(t, "<r>"+c.s+"</r>")
		if value, many := sameField(t, above, 0, "a"); value != c.value || many != 1 {
			t.Errorf("%s within r: %q, %d", c.s, value, many)
		}
		words, _ := impl.TextOf(list, 0)
		ofAttr := []impl.Item{elem(-1, "a", attr("p:i", "0"), attr("i", words))}
		if value, many := sameField(t, ofAttr, 0, "@i"); value != c.value || many != 1 {
			t.Errorf("%s as an attribute: %q, %d", c.s, value, many)
		}
	}
	long := strings.Repeat("n", impl.MaxName)
	way := chain(7)
	way[6].Attrs = []impl.Attr{attr(long, "v")}
	for path, many := range map[string]int64{"a/a/a/a/a/a/@" + long: 1, "a/a/a/a/a/@" + long: 0, "a/a/a/a/a/a/a/@" + long: -1, "a/a/a/a/a/a": 1, "a/a/a/a/a/a/a": -1, "a/a/a/a/a/a/@" + long + "n": -1, "@" + long + "n": -1, "@" + long: 0} {
		if _, got := sameField(t, way, 0, path); got != many {
			t.Errorf("%s: %d", path, got)
		}
	}
	for _, path := range []string{strings.Repeat("a", impl.MaxText), strings.Repeat("a", impl.MaxText+1), "@" + strings.Repeat("a", impl.MaxText), strings.Repeat("a/", impl.MaxText/2) + "@a", strings.Repeat("@", 1<<20), strings.Repeat(".", impl.MaxText)} {
		if value, many := impl.FieldOf(way, 0, path); value != "" || many != -1 {
			t.Errorf("%.80q is %q, %d", path, value, many)
		}
	}
}

func TestPathsFromNoElement(t *testing.T) {
	list := parsed(t, "<a i='1'>x<a i='2'/>y</a>")
	for _, n := range append([]int64{-1, -2, 1, 3, 4, 5, 199, 200, math.MaxInt32}, farOff...) {
		if got := impl.Select(list, n, "//a"); len(got) != 0 {
			t.Errorf("from %d to %v", n, got)
		}
		for _, path := range []string{".", "a", "@i", "a/@i"} {
			if value, many := impl.FieldOf(list, n, path); value != "" || many != -1 {
				t.Errorf("%s of %d is %q, %d", path, n, value, many)
			}
		}
	}
	for what, list := range wrongDocs() {
		for _, n := range []int64{-1, 0, 1, 2} {
			if got := impl.Select(list, n, "//b"); len(got) != 0 {
				t.Errorf("%s: %v", what, got)
			}
			for _, path := range []string{".", "b", "@x"} {
				if value, many := impl.FieldOf(list, n, path); value != "" || many != -1 {
					t.Errorf("%s: %s is %q, %d", what, path, value, many)
				}
			}
		}
	}
}

// keyDoc makes a document in which few names and few values come again and again.
func (m maker) keyDoc() []impl.Item {
	list := []impl.Item{elem(-1, m.pick("r", "r", "r", "a"))}
	above := []int64{0}
	for range m.Intn(30) {
		n := int64(len(list))
		up := above[m.Intn(min(3, len(above)))]
		if m.Intn(3) == 0 {
			if last := list[n-1]; last.Name != "" || last.Up != up {
				list = append(list, text(up, m.keyValue()+m.pick("", "x", " ")+" "))
			}
		} else {
			item := elem(up, m.pick("a", "a", "b", "b", "c", "p:a", "r"))
			for _, name := range []string{"i", "j", "p:i"} {
				if m.Intn(2) == 0 {
					item.Attrs = append(item.Attrs, attr(name, m.keyValue()))
				}
			}
			list = append(list, item)
			above = append(above, n)
		}
		// What has ended takes no more.
		last := int64(len(list) - 1)
		above = slices.DeleteFunc(above, func(at int64) bool { return !liesBelow(list, last, at) })
	}
	return list
}

func (m maker) keyValue() string {
	return m.pick("", "1", " 1", "1\n", "2", "1 2", "1  2", "12")
}

func (m maker) path() string {
	if m.Intn(25) == 0 {
		return m.pick("", "/a", "a/", "a//b", "p:a", "a/b/c/a/b/c/a", ".", "@i")
	}
	path := m.pick("", "//") + m.pick("a", "a", "b")
	for range m.Intn(4) / 2 {
		path += "/" + m.pick("a", "b", "c", "r")
	}
	return path
}

func (m maker) field() string {
	if m.Intn(40) == 0 {
		return m.pick("", "//a", "//a/@i", "@p:i", "a/", "..", "@", "a/b/c/a/b/c/a/@i")
	}
	return m.pick(".", ".", "@i", "@i", "@j", "a", "b", "a/@i", "b/@j", "b/c", "@q")
}

func TestPathsAgainstTheOracle(t *testing.T) {
	m := maker{rand.New(rand.NewSource(111))}
	found, counts := 0, map[int64]int{}
	for range 4000 {
		list := m.keyDoc()
		if !impl.DocOk(list) {
			t.Fatal(list)
		}
		for range 8 {
			n := int64(m.Intn(len(list)+2) - 1)
			if m.Intn(2) == 0 {
				n = 0
			}
			if len(sameSelected(t, list, n, m.path())) > 1 {
				found++
			}
			_, many := sameField(t, list, n, m.field())
			counts[min(many, 2)]++
		}
	}
	if found < 1000 || counts[-1] < 1000 || counts[0] < 1000 || counts[1] < 1000 || counts[2] < 500 {
		t.Error(found, counts)
	}
}
