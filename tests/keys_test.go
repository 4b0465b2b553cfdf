package tests

import (
	"math/rand"
	"reflect"
	"slices"
	"strings"
	"testing"

	"loop.example/g00262/impl"
)

func key(name string, kind int64, on, path string, fields ...string) impl.Key {
	return impl.Key{Name: name, Kind: kind, On: on, Path: path, Fields: fields}
}

func refKey(name, refer, on, path string, fields ...string) impl.Key {
	k := key(name, impl.KyRef, on, path, fields...)
	k.Refer = refer
	return k
}

// keyRight is what chapter 11 asks of one key, but for Refer.
func keyRight(k impl.Key) bool {
	for _, f := range k.Fields {
		if !fieldForm.MatchString(f) {
			return false
		}
	}
	return nameForm.MatchString(k.Name) && nameForm.MatchString(k.On) && k.Kind >= 1 && k.Kind <= 3 && pathForm.MatchString(k.Path) && len(k.Fields) >= 1 && len(k.Fields) <= 4
}

func keysRight(keys []impl.Key) bool {
	earlier := map[string]impl.Key{}
	for _, k := range keys {
		if _, before := earlier[k.Name]; before || !keyRight(k) {
			return false
		}
		if k.Kind == impl.KyRef {
			other, found := earlier[k.Refer]
			if !found || other.Kind == impl.KyRef || other.On != k.On || len(other.Fields) != len(k.Fields) {
				return false
			}
		} else if k.Refer != "" {
			return false
		}
		earlier[k.Name] = k
	}
	return len(keys) <= 10
}

// tableBy asks each selected element for each field.
func tableBy(list []impl.Item, n int64, k impl.Key) ([][]string, bool) {
	if !isElement(list, n) || !keyRight(k) {
		return nil, false
	}
	var rows [][]string
	for _, at := range selectedBy(list, n, k.Path) {
		var row []string
		whole := true
		for _, f := range k.Fields {
			value, many := fieldBy(list, at, f)
			if many > 1 || many == 0 && k.Kind == impl.KyKey {
				return nil, false
			}
			row, whole = append(row, value), whole && many == 1
		}
		if whole {
			rows = append(rows, row)
		}
	}
	return rows, true
}

func breachesBy(list []impl.Item, keys []impl.Key) []int64 {
	if !impl.DocOk(list) || !keysRight(keys) {
		return nil
	}
	var places []int64
	for i, k := range keys {
		broken := false
		for n, item := range list {
			if item.Name != k.On {
				continue
			}
			rows, ok := tableBy(list, int64(n), k)
			broken = broken || !ok
			refer := slices.IndexFunc(keys, func(other impl.Key) bool { return other.Name == k.Refer })
			for r, row := range rows {
				same := func(other []string) bool { return slices.Equal(row, other) }
				if k.Kind != impl.KyRef {
					broken = broken || slices.ContainsFunc(rows[:r], same)
					continue
				}
				others, ok := tableBy(list, int64(n), keys[refer])
				broken = broken || !ok || !slices.ContainsFunc(others, same)
			}
		}
		if broken {
			places = append(places, int64(i))
		}
	}
	return places
}

func sameTable(t *testing.T, list []impl.Item, n int64, k impl.Key) ([][]string, bool) {
	t.Helper()
	rows, ok := impl.TableOf(list, n, k)
	want, right := tableBy(list, n, k)
	if ok != right || !slices.EqualFunc(rows, want, slices.Equal[[]string]) {
		words, _ := impl.PrintDoc(list)
		t.Fatalf("%+v at %d of %s has %q, %v, not %q, %v", k, n, words, rows, ok, want, right)
	}
	return rows, ok
}

func sameBreaches(t *testing.T, list []impl.Item, keys []impl.Key) []int64 {
	t.Helper()
	got := impl.Breaches(list, keys)
	if want := breachesBy(list, keys); !slices.Equal(got, want) {
		words, _ := impl.PrintDoc(list)
		t.Fatalf("%+v in %s: %v do not hold, not %v", keys, words, got, want)
	}
	return got
}

func rightKeys(t *testing.T, what string, keys ...impl.Key) {
	t.Helper()
	if !impl.KeysOk(keys) || !keysRight(keys) {
		t.Errorf("%.200q: refused", what)
	}
}

func wrongKeys(t *testing.T, what string, keys ...impl.Key) {
	t.Helper()
	if impl.KeysOk(keys) || keysRight(keys) {
		t.Errorf("%.200q: right", what)
	}
	if got := impl.Breaches(parsed(t, "<r><a i='1'/><a i='1'/></r>"), keys); len(got) != 0 {
		t.Errorf("%.200q: %v do not hold", what, got)
	}
}

func manyKeys(n int) []impl.Key {
	var keys []impl.Key
	for _, name := range namesFrom("k", n) {
		keys = append(keys, key(name, impl.KyUnique, "r", "a", "@i"))
	}
	return keys
}

func TestRightKeys(t *testing.T) {
	long := strings.Repeat("n", impl.MaxName)
	rightKeys(t, "none")
	rightKeys(t, "ten", manyKeys(10)...)
	wrongKeys(t, "eleven", manyKeys(11)...)
	wrongKeys(t, "very many", manyKeys(3000)...)
	one := key("k", impl.KyUnique, "r", "a", "@i")
	for _, kind := range []int64{impl.KyUnique, impl.KyKey} {
		rightKeys(t, "a kind", key("k", kind, "r", "a", "@i"))
	}
	for _, kind := range append([]int64{-1, 0, 4, 5, 257, 258, 259}, farOff...) {
		wrongKeys(t, "a kind", key("k", kind, "r", "a", "@i"))
		wrongKeys(t, "a kind behind another", one, key("l", kind, "r", "a", "@i"))
	}
	rightKeys(t, "long names", key(long, 1, long, long, long, "@"+long))
	rightKeys(t, "one name in all", key("a", 1, "a", "a", "a", "a"))
	for _, name := range []string{"", "1", "p:a", "a b", " a", "é", long + "n", "\x00", "\xff", strings.Repeat("a", impl.MaxText+1)} {
		wrongKeys(t, "a name", key(name, 1, "r", "a", "@i"))
		wrongKeys(t, "an element's name", key("k", 1, name, "a", "@i"))
	}
	for _, path := range []string{"a", "//a", "a/b/c/d/e/f", "//a/b/c/d/e/f"} {
		rightKeys(t, path, key("k", 1, "r", path, "."))
	}
	for _, path := range []string{"", ".", "@i", "a/@i", "/a", "a/", "a//b", "a/b/c/d/e/f/g", "p:a", strings.Repeat("a", impl.MaxText+1)} {
		wrongKeys(t, path, key("k", 1, "r", path, "."))
	}
	wrongKeys(t, "two names alike", one, one)
	wrongKeys(t, "two names alike, with one between", one, key("l", 1, "r", "a", "@i"), key("k", 2, "s", "b", "."))
	rightKeys(t, "names that are nearly alike", one, key("K", 1, "r", "a", "@i"), key("k_", 1, "r", "a", "@i"))
}

func TestFieldsOfKeys(t *testing.T) {
	for many := range 7 {
		check := wrongKeys
		if many >= 1 && many <= 4 {
			check = rightKeys
		}
		check(t, "so many fields", key("k", 1, "r", "a", slices.Repeat([]string{"@i"}, many)...))
		check(t, "so many fields of each sort", key("k", 2, "r", "a", []string{".", "@i", "a/b", "a/b/@i", ".", "."}[:many]...))
	}
	wrongKeys(t, "very many fields", key("k", 1, "r", "a", slices.Repeat([]string{"."}, 1<<16)...))
	for _, f := range []string{"", "//a", "//a/@i", "a/", "@", "@p:i", "..", "a/.", "@i/a", "a/b/c/d/e/f/g", "@" + strings.Repeat("a", impl.MaxText)} {
		for _, fields := range [][]string{{f}, {".", f}, {f, "."}, {".", ".", ".", f}} {
			wrongKeys(t, f, key("k", 1, "r", "a", fields...))
		}
	}
}

func TestRefer(t *testing.T) {
	one, two := key("k", impl.KyKey, "r", "a", "@i"), key("l", impl.KyUnique, "r", "//b", "@i", ".")
	ref := refKey("m", "k", "r", "c", "@j")
	rightKeys(t, "to an earlier one", one, ref)
	rightKeys(t, "to one further ahead", one, two, ref)
	rightKeys(t, "to a unique one", two, refKey("m", "l", "r", "c", "@j", "b"))
	rightKeys(t, "two to one", one, ref, refKey("n", "k", "r", "a/b", "."))
	wrongKeys(t, "to none", ref)
	wrongKeys(t, "to a later one", ref, one)
	wrongKeys(t, "to itself", refKey("m", "m", "r", "c", "@j"))
	wrongKeys(t, "to itself, behind another", one, refKey("m", "m", "r", "c", "@j"))
	wrongKeys(t, "to no name", one, refKey("m", "", "r", "c", "@j"))
	wrongKeys(t, "to a path", one, refKey("m", "a", "r", "c", "@j"))
	wrongKeys(t, "to one on another element", one, refKey("m", "k", "s", "c", "@j"))
	wrongKeys(t, "to one with more fields", two, refKey("m", "l", "r", "c", "@j"))
	wrongKeys(t, "to one with less fields", one, refKey("m", "k", "r", "c", "@j", "."))
	wrongKeys(t, "to one that refers", one, ref, refKey("n", "m", "r", "c", "@j"))
	for _, kind := range []int64{impl.KyUnique, impl.KyKey} {
		refers := ref
		refers.Kind = kind
		wrongKeys(t, "a Refer of a kind that has none", one, refers)
		refers.Refer = "m"
		wrongKeys(t, "a Refer to itself of a kind that has none", one, refers)
	}
}

func TestTables(t *testing.T) {
	// The places: r 0, a 1, x 2, a 3, a 4, b 5, y 6, c 7.
	list := parsed(t, "<r><a i='1' j='2'>x</a><a i=' 1 ' j='3'/><a i='4'><b i='5' j='6'/></a>y<c/></r>")
	for _, c := range []struct {
		n      int64
		kind   int64
		path   string
		fields string
		rows   string
		ok     bool
	}{
		{0, impl.KyUnique, "a", "@i", "1|1|4", true},
		{0, impl.KyKey, "a", "@i", "1|1|4", true},
		{0, impl.KyUnique, "a", "@j", "2|3", true},
		{0, impl.KyRef, "a", "@j", "2|3", true},
		{0, impl.KyKey, "a", "@j", "", false},
		{0, impl.KyUnique, "a", "@i @j", "1,2|1,3", true},
		{0, impl.KyUnique, "a", "@j @i", "2,1|3,1", true},
		{0, impl.KyKey, "a", "@i @j", "", false},
		{0, impl.KyUnique, "//a", "@i . @i .", "1,x,1,x|1,,1,|4,,4,", true},
		{0, impl.KyUnique, "a", ".", "x||", true},
		{0, impl.KyUnique, "a", "b/@i", "5", true},
		{0, impl.KyUnique, "a/b", "@j @i", "6,5", true},
		{0, impl.KyUnique, "//b", ".", "", true},
		{0, impl.KyUnique, "b", "@i", "", true},
		{0, impl.KyKey, "b", "@i", "", true},
		{0, impl.KyUnique, "c", "@i", "", true},
		{0, impl.KyKey, "c", "@i", "", false},
		{4, impl.KyKey, "b", "@i", "5", true},
		{1, impl.KyKey, "b", "@i", "", true},
		{2, impl.KyUnique, "b", "@i", "", false},
		{-1, impl.KyUnique, "b", "@i", "", false},
	} {
		k := key("k", c.kind, "z", c.path, strings.Fields(c.fields)...)
		rows, ok := sameTable(t, list, c.n, k)
		var lines []string
		for _, row := range rows {
			lines = append(lines, strings.Join(row, ","))
		}
		if ok != c.ok || strings.Join(lines, "|") != c.rows {
			t.Errorf("%+v at %d: %q, %v", k, c.n, rows, ok)
		}
	}
}

func TestFieldsThatAreThereTwice(t *testing.T) {
	list := parsed(t, "<r><a i='1'><b/></a><a><b/><b/></a><a j='2'><b/></a></r>")
	for _, kind := range []int64{impl.KyUnique, impl.KyKey, impl.KyRef} {
		for _, fields := range [][]string{{"b"}, {"@i", "b"}, {"b", "@i"}, {"@q", "b"}, {"b", "@q"}, {".", ".", ".", "b"}} {
			// That another field is not there at that element does not help.
			if rows, ok := sameTable(t, list, 0, key("k", kind, "r", "a", fields...)); ok {
				t.Errorf("%v: %q", fields, rows)
			}
		}
		if rows, ok := sameTable(t, list, 0, key("k", kind, "r", "c", "b")); !ok || len(rows) != 0 {
			t.Errorf("%q, %v", rows, ok)
		}
	}
	if rows, ok := sameTable(t, list, 0, key("k", impl.KyUnique, "r", "a", "b/@i")); !ok || len(rows) != 0 {
		t.Errorf("two elements, and no attribute: %q, %v", rows, ok)
	}
}

func TestTablesOfWrongThings(t *testing.T) {
	list := parsed(t, "<r><a i='1'/>x</r>")
	right := key("k", impl.KyUnique, "r", "a", "@i")
	for _, n := range append([]int64{-1, 2, 3, 200}, farOff...) {
		if rows, ok := impl.TableOf(list, n, right); ok || len(rows) != 0 {
			t.Errorf("at %d: %q", n, rows)
		}
	}
	// Neither Refer nor which element On names is asked here.
	for _, refer := range []string{"", "k", "z", "\x00"} {
		for kind := range int64(5) {
			k := right
			k.Kind, k.Refer, k.On = kind, refer, "other"
			if rows, ok := sameTable(t, list, 0, k); ok != (kind >= 1 && kind <= 3) || ok && !reflect.DeepEqual(rows, [][]string{{"1"}}) {
				t.Errorf("%+v: %q, %v", k, rows, ok)
			}
		}
	}
	for _, k := range []impl.Key{
		{}, key("", 1, "r", "a", "@i"), key("1", 1, "r", "a", "@i"), key("k", 1, "", "a", "@i"), key("k", 1, "p:r", "a", "@i"), key("k", 0, "r", "a", "@i"), key("k", 4, "r", "a", "@i"), key("k", 1, "r", "", "@i"), key("k", 1, "r", "a/", "@i"),
		key("k", 1, "r", "a"), key("k", 1, "r", "a", ""), key("k", 1, "r", "a", "@i", "//a"), key("k", 1, "r", "a", "@i", "@i", "@i", "@i", "@i"), key("k", 1, "r", "z", "@1"),
	} {
		if rows, ok := sameTable(t, list, 0, k); ok || len(rows) != 0 {
			t.Errorf("%+v: %q", k, rows)
		}
	}
	for what, list := range wrongDocs() {
		for _, n := range []int64{-1, 0, 1} {
			if rows, ok := impl.TableOf(list, n, right); ok || len(rows) != 0 {
				t.Errorf("%s: %q", what, rows)
			}
		}
		if got := impl.Breaches(list, []impl.Key{key("k", impl.KyKey, "a", "b", "@x")}); len(got) != 0 {
			t.Errorf("%.200q: %v do not hold", what, got)
		}
	}
}

func TestBreaches(t *testing.T) {
	unique, strict := key("u", impl.KyUnique, "r", "a", "@i"), key("k", impl.KyKey, "r", "a", "@i")
	pair, strictPair := key("p", impl.KyUnique, "r", "a", "@i", "@j"), key("q", impl.KyKey, "r", "a", "@i", "@j")
	toUnique, toKey, toPair := refKey("m", "u", "r", "c", "@i"), refKey("n", "k", "r", "c", "@i"), refKey("o", "p", "r", "c", "@i", "@j")
	for _, c := range []struct {
		doc  string
		keys []impl.Key
		want []int64
	}{
		{"<r/>", nil, nil},
		{"<r/>", []impl.Key{unique, strict, pair, strictPair, toUnique, toKey, toPair}, nil},
		{"<s><a/><a/></s>", []impl.Key{unique, strict, toKey}, nil}, // On names no element
		{"<r><a i='1'/><a i='2'/></r>", []impl.Key{unique, strict}, nil},
		{"<r><a i='1'/><a i='1'/></r>", []impl.Key{unique, strict}, []int64{0, 1}},
		{"<r><a i='1'/><a i=' 1&#9;'/></r>", []impl.Key{unique, strict}, []int64{0, 1}},
		{"<r><a i='1 2'/><a i='1  2'/></r>", []impl.Key{unique}, []int64{0}},
		{"<r><a i='1'/><a i='01'/><a i='1.0'/></r>", []impl.Key{unique}, nil},
		{"<r><a i='1'/><a/></r>", []impl.Key{unique, strict}, []int64{1}},
		{"<r><a/><a/></r>", []impl.Key{unique, strict}, []int64{1}},
		{"<r><a i=''/><a i=' '/></r>", []impl.Key{unique}, []int64{0}},
		{"<r><a i=''/><a/></r>", []impl.Key{unique}, nil},
		// alike only when they are put together
		{"<r><a i='1' j='23'/><a i='12' j='3'/></r>", []impl.Key{pair, strictPair}, nil},
		{"<r><a i='1 2' j='3'/><a i='1' j='2 3'/></r>", []impl.Key{pair}, nil},
		{"<r><a i='' j='1'/><a i='1' j=''/></r>", []impl.Key{pair}, nil},
		{"<r><a i='1' j='2'/><a i='2' j='1'/></r>", []impl.Key{pair}, nil},
		{"<r><a i='1' j='2'/><a i='1' j='3'/><a i='1'/><a j='2'/></r>", []impl.Key{pair, strictPair}, []int64{1}},
		{"<r><a i='1' j='2'/><a j=' 2' i='1 '/></r>", []impl.Key{pair, strictPair}, []int64{0, 1}},
		// references
		{"<r><a i='1'/><a i='2'/><c i='2'/><c i='2 '/><c/></r>", []impl.Key{unique, strict, toUnique, toKey}, nil},
		{"<r><a i='1'/><c i='2'/></r>", []impl.Key{unique, strict, toUnique, toKey}, []int64{2, 3}},
		{"<r><c i='2'/></r>", []impl.Key{unique, strict, toUnique, toKey}, []int64{2, 3}},
		{"<r><a i='1'/><a i='1'/><c i='1'/></r>", []impl.Key{unique, strict, toUnique, toKey}, []int64{0, 1}}, // two rows alike are rows still
		{"<r><a i='1'/><a/><c i='1'/></r>", []impl.Key{unique, strict, toUnique, toKey}, []int64{1, 3}},       // the key's table is false
		{"<r><a i='1'/><a/><c/></r>", []impl.Key{unique, strict, toUnique, toKey}, []int64{1}},                // .. and no row asks for it
		{"<r><a i='1'/><a/></r>", []impl.Key{unique, strict, toUnique, toKey}, []int64{1}},
		{"<r><a i='1' j='2'/><c i='1' j='2'/><c i='1'/></r>", []impl.Key{pair, toPair}, nil},
		{"<r><a i='1' j='2'/><c i='2' j='1'/></r>", []impl.Key{pair, toPair}, []int64{1}},
		{"<r><a i='1' j='23'/><c i='12' j='3'/></r>", []impl.Key{pair, toPair}, []int64{1}},
		{"<r><a i='1'/><c i='1' j='2'/></r>", []impl.Key{pair, toPair}, []int64{1}},
		// each element that On names is asked on its own
		{"<r><r><a i='1'/></r><r><a i='1'/></r></r>", []impl.Key{unique, strict}, nil},
		{"<r><r><a i='1'/><a i='1'/></r></r>", []impl.Key{unique}, []int64{0}},
		{"<s><r><a i='1'/></r><r><a/></r></s>", []impl.Key{unique, strict}, []int64{1}},
		{"<r><a i='1'/><r><c i='1'/></r></r>", []impl.Key{unique, toUnique}, []int64{1}},
		{"<r><a i='1'/><r><a i='1'/><c i='1'/></r></r>", []impl.Key{unique, toUnique}, nil},
		{"<r><a i='1'/><p:r><a i='1'/><a i='1'/></p:r></r>", []impl.Key{unique}, nil},
		{"<r><a i='1'/><r><a i='1'/></r></r>", []impl.Key{key("d", impl.KyUnique, "r", "//a", "@i")}, []int64{0}},
		{"<r><a i='1'><a i='2'><a i='1'/></a></a></r>", []impl.Key{unique, key("d", impl.KyUnique, "r", "//a", "@i"), key("e", impl.KyUnique, "a", "//a", "@i")}, []int64{1}},
		// fields that are there twice
		{"<r><a><b/><b/></a></r>", []impl.Key{key("b", impl.KyUnique, "r", "a", "b"), key("v", impl.KyUnique, "r", "a", "@i"), refKey("w", "v", "r", "a", "b")}, []int64{0, 2}},
		{"<r><a><b/><b/></a><c i=''/></r>", []impl.Key{key("b", impl.KyUnique, "r", "a", "b"), refKey("w", "b", "r", "c", "@i")}, []int64{0, 1}},
		{"<r><a><b/><b/></a><c/></r>", []impl.Key{key("b", impl.KyUnique, "r", "a", "b"), refKey("w", "b", "r", "c", "@i")}, []int64{0}},
	} {
		if !impl.KeysOk(c.keys) {
			t.Errorf("%+v are refused", c.keys)
		}
		if got := sameBreaches(t, parsed(t, c.doc), c.keys); !slices.Equal(got, c.want) {
			t.Errorf("%.200q: %v do not hold", c.doc, got)
		}
	}
}

func TestManyRows(t *testing.T) {
	// As many elements as there may be, all of them asked about one another.
	list := wide(impl.MaxItems)
	for i := range list[1:] {
		list[i+1].Attrs = []impl.Attr{attr("i", string(rune('A'+i%26))+string(rune('a'+i/26)))}
	}
	keys := []impl.Key{key("k", impl.KyKey, "a", "//b", "@i", "@i", ".", "."), refKey("l", "k", "a", "b", "@i", "@i", ".", ".")}
	if got := impl.Breaches(list, keys); len(got) != 0 {
		t.Error(got)
	}
	list[impl.MaxItems-1].Attrs[0].Value = list[1].Attrs[0].Value
	if got := impl.Breaches(list, keys); !slices.Equal(got, []int64{0}) {
		t.Error(got)
	}
	var deep []impl.Item
	for len(deep) < impl.MaxItems {
		n := len(deep)
		up := int64(n - 1)
		if n%(impl.MaxDeep-1) == 1 {
			up = 0
		}
		deep = append(deep, elem(up, "a"))
	}
	var often []impl.Key
	for _, name := range namesFrom("k", impl.MaxKeys) {
		often = append(often, key(name, impl.KyUnique, "a", "//a", "a/a/a/a/a/a", "a/a", ".", "a"))
	}
	if got := impl.Breaches(deep, often); !impl.DocOk(deep) || len(got) != impl.MaxKeys {
		t.Error(got)
	}
}

// keys makes some that are mostly right.
func (m maker) keys() []impl.Key {
	var keys []impl.Key
	for _, name := range namesFrom("k", m.Intn(5)) {
		k := key(name, int64(1+m.Intn(3)), m.pick("a", "b", "r", "r", "r"), m.path(), m.field())
		for m.Intn(4) == 0 {
			k.Fields = append(k.Fields, m.field())
		}
		if k.Kind == impl.KyRef && len(keys) > 0 {
			other := keys[m.Intn(len(keys))]
			k.Refer = other.Name
			if m.Intn(10) > 0 {
				k.On, k.Fields = other.On, k.Fields[:1]
				for len(k.Fields) < len(other.Fields) {
					k.Fields = append(k.Fields, m.field())
				}
			}
		}
		if m.Intn(50) == 0 {
			k.Name = m.pick("k0", "", "p:k")
		}
		if m.Intn(50) == 0 {
			k.Kind = int64(m.Intn(6) - 1)
		}
		keys = append(keys, k)
	}
	return keys
}

func TestKeysAgainstTheOracle(t *testing.T) {
	m := maker{rand.New(rand.NewSource(112))}
	right, broken, tables := 0, 0, 0
	for range 12000 {
		list, keys := m.keyDoc(), m.keys()
		if impl.KeysOk(keys) != keysRight(keys) {
			t.Fatalf("%+v: not %v", keys, keysRight(keys))
		}
		got := sameBreaches(t, list, keys)
		if keysRight(keys) {
			right++
			broken += min(1, len(got))
		}
		for i, k := range keys {
			for n := range int64(len(list)) {
				rows, ok := sameTable(t, list, n, k)
				tables += min(1, len(rows))
				alike := len(rows) > 1 && slices.Equal(rows[0], rows[1])
				// What is told to hold has no two rows alike.
				if keysRight(keys) && list[n].Name == k.On && k.Kind != impl.KyRef && (alike || !ok) && !slices.Contains(got, int64(i)) {
					t.Fatalf("%+v is told to hold", k)
				}
			}
		}
	}
	if right < 3000 || right > 11000 || broken < 1000 || broken > right-1000 || tables < 3000 {
		t.Errorf("%d are right, %d of them broken; %d tables", right, broken, tables)
	}
}

func TestKeysAreLeftAsTheyAre(t *testing.T) {
	m := maker{rand.New(rand.NewSource(113))}
	for range 500 {
		list := append(m.keyDoc(), elem(0, "behind"))
		for i := range list {
			list[i].Attrs = append(list[i].Attrs, attr("behind", ""))[:len(list[i].Attrs)]
		}
		keys := append(m.keys(), key("behind", 7, "", "", "behind"))
		for i := range keys {
			keys[i].Fields = append(keys[i].Fields, "behind")[:len(keys[i].Fields)]
		}
		keptItems, keptKeys := cloneItems(list), slices.Clone(keys)
		for i := range keptKeys {
			keptKeys[i].Fields = slices.Clone(keptKeys[i].Fields)
		}
		list, keys = list[:len(list)-1], keys[:len(keys)-1]
		ok, broken := impl.KeysOk(keys), impl.Breaches(list, keys)
		for _, k := range keys {
			rows, _ := impl.TableOf(list, 0, k)
			places := impl.Select(list, 0, k.Path)
			impl.FieldOf(list, 0, k.Fields[0])
			if again, _ := impl.TableOf(list, 0, k); !slices.EqualFunc(rows, again, slices.Equal[[]string]) || !slices.Equal(places, impl.Select(list, 0, k.Path)) {
				t.Fatalf("%+v answers in two ways", k)
			}
			wiped(places)
			for i := range rows {
				for n := range rows[i][:cap(rows[i])] {
					rows[i][:cap(rows[i])][n] = "changed"
				}
				if i+1 < len(rows) && slices.Contains(rows[i+1], "changed") {
					t.Fatalf("rows of %+v share memory", k)
				}
			}
		}
		if impl.KeysOk(keys) != ok || !slices.Equal(impl.Breaches(list, keys), broken) {
			t.Fatalf("%+v answer in two ways", keys)
		}
		if !sameItems(list[:len(list)+1], keptItems) || !reflect.DeepEqual(keys[:len(keys)+1], keptKeys) {
			t.Fatalf("%+v or the document was changed", keptKeys)
		}
		for i := range list {
			if list[i].Attrs[:len(list[i].Attrs)+1][len(list[i].Attrs)] != attr("behind", "") {
				t.Fatal("the document was changed behind its attributes")
			}
		}
		for i := range keys {
			if keys[i].Fields[:len(keys[i].Fields)+1][len(keys[i].Fields)] != "behind" {
				t.Fatal("the keys were changed behind their fields")
			}
		}
	}
}
