package tests

import (
	"math"
	"math/rand"
	"reflect"
	"slices"
	"strconv"
	"strings"
	"testing"

	"loop.example/g00262/impl"
)

// whiteOf goes byte by byte.
func whiteOf(s string, how int64) string {
	blank := func(b byte) bool { return b == 32 || b == 9 || b == 10 || b == 13 }
	var out []byte
	for i := range len(s) {
		switch {
		case how != 1 && how != 2 || !blank(s[i]):
			out = append(out, s[i])
		case how == 1:
			out = append(out, 32)
		case i > 0 && !blank(s[i-1]) && strings.Trim(s[i:], " \t\n\r") != "":
			out = append(out, 32)
		}
	}
	if how == 2 {
		return strings.TrimLeft(string(out), " ")
	}
	return string(out)
}

func sameWhite(t *testing.T, s string) {
	t.Helper()
	for _, how := range append([]int64{-2, -1, 0, 1, 2, 3, 32, 257, 258}, farOff...) {
		got := impl.White(s, how)
		if want := whiteOf(s, how); got != want {
			t.Fatalf("White(%q, %d) is %q, not %q", s, how, got, want)
		}
		if again := impl.White(got, how); again != got {
			t.Fatalf("White(%q, %d) is %q, and then %q", s, how, got, again)
		}
	}
}

func TestWhiteOfAllShortTexts(t *testing.T) {
	signs := []string{" ", "\t", "\n", "\r", "a", "é"}
	texts := []string{""}
	for range 5 {
		var longer []string
		for _, s := range texts {
			sameWhite(t, s)
			for _, sign := range signs {
				longer = append(longer, s+sign)
			}
		}
		texts = longer
	}
}

func TestWhiteKnowsFourBlanks(t *testing.T) {
	// What other rules count as blanks, and bytes that are no text, stay as they are.
	for r := range rune(256) {
		s := string(r)
		sameWhite(t, s+"a"+s+s+"b"+s)
	}
	for b := range 256 {
		s := string([]byte{byte(b)})
		sameWhite(t, s+"a"+s+s+"b"+s)
	}
	for _, s := range []string{"\u00a0a\u00a0", "\u2028\u3000", "\ufeff a", "\xff \xff", "\xed\xa0\x80 \t", strings.Repeat("\t", impl.MaxText+1), strings.Repeat("a\n", impl.MaxText)} {
		sameWhite(t, s)
	}
	for s, want := range map[string]string{"\ta\nb\r": " a b ", "a\r\nb": "a  b", "\v\f": "\v\f", "": ""} {
		if got := impl.White(s, 1); got != want {
			t.Errorf("%q became %q", s, got)
		}
	}
	for s, want := range map[string]string{"\t a \r\n\tb\n": "a b", " \t\r\n": "", "\v a": "\v a"} {
		if got := impl.White(s, 2); got != want {
			t.Errorf("%q became %q", s, got)
		}
	}
}

func simple(name string, kind int64) impl.Simple {
	return impl.Simple{Name: name, Kind: kind, MinLong: -1, MaxLong: -1}
}

// leaning is a list or a based type.
func leaning(name string, kind, base int64) impl.Simple {
	one := simple(name, kind)
	one.Base = base
	return one
}

func union(name string, members ...int64) impl.Simple {
	one := simple(name, impl.SmUnion)
	one.Members = members
	return one
}

const (
	listPlace  = 7
	unionPlace = 8
	nextPlace  = 9
)

// oneOfEach has the Kinds up to SmUnion, each at its number less one.
func oneOfEach(more ...impl.Simple) []impl.Simple {
	list := []impl.Simple{simple("text", impl.SmText), simple("token", impl.SmToken), simple("name", impl.SmName), simple("bool", impl.SmBool), simple("decimal", impl.SmDecimal), simple("integer", impl.SmInteger), simple("date", impl.SmDate)}
	return append(append(list, leaning("list", impl.SmList, 5), union("union", 5, 3, 1)), more...)
}

// saying is a type of a Kind, or one based on such a type, behind oneOfEach, that says more.
func saying(based bool, kind int64, say func(one *impl.Simple)) []impl.Simple {
	one := simple("more", kind)
	switch {
	case based:
		one.Kind, one.Base = impl.SmBased, kind-1
	case kind == impl.SmList:
		one.Base = 0
	case kind == impl.SmUnion:
		one.Members = []int64{0}
	}
	say(&one)
	return oneOfEach(one)
}

func rightTypes(t *testing.T, what string, list []impl.Simple) {
	t.Helper()
	if !impl.SimplesOk(list) {
		t.Fatalf("%s: %+v is refused", what, list)
	}
	for n := range list {
		if got := impl.Primitive(list, int64(n)); got != primitiveOf(list, int64(n)) {
			t.Fatalf("%s: type %d comes to %d", what, n, got)
		}
	}
}

func wrongTypes(t *testing.T, what string, list []impl.Simple) {
	t.Helper()
	if impl.SimplesOk(list) {
		t.Fatalf("%s: %+v is right", what, list)
	}
	for n := range int64(len(list)) {
		for _, s := range []string{"", "a", "1", "true", "2024-01-01T00:00:00Z"} {
			if value, ok := impl.ValueOf(list, n, s); ok || value != "" {
				t.Fatalf("%s: %q has the value %q", what, s, value)
			}
			if impl.MemberOf(list, n, s) != -1 || impl.SameValue(list, n, s, s) {
				t.Fatalf("%s: %q is told of", what, s)
			}
		}
		if impl.Primitive(list, n) != -1 {
			t.Fatalf("%s: type %d comes to something", what, n)
		}
	}
}

// primitiveOf is for right types.
func primitiveOf(list []impl.Simple, n int64) int64 {
	for list[n].Kind == impl.SmBased {
		n = list[n].Base
	}
	return list[n].Kind
}

func TestRightTypes(t *testing.T) {
	for what, list := range map[string][]impl.Simple{
		"none":                          nil,
		"no types":                      {},
		"one of each":                   oneOfEach(),
		"based on each":                 oneOfEach(leaning("b1", impl.SmBased, 0), leaning("b2", impl.SmBased, 1), leaning("b3", impl.SmBased, 2), leaning("b4", impl.SmBased, 3), leaning("b5", impl.SmBased, 4), leaning("b6", impl.SmBased, 5), leaning("b7", impl.SmBased, 6), leaning("b8", impl.SmBased, 7), leaning("b9", impl.SmBased, 8), leaning("b10", impl.SmBased, 17)),
		"lists of each":                 oneOfEach(leaning("l1", impl.SmList, 0), leaning("l2", impl.SmList, 1), leaning("l3", impl.SmList, 2), leaning("l4", impl.SmList, 3), leaning("l5", impl.SmList, 4), leaning("l6", impl.SmList, 5), leaning("l7", impl.SmList, 6)),
		"a list of a based type":        oneOfEach(leaning("b", impl.SmBased, 6), leaning("l", impl.SmList, 9)),
		"a union of one":                oneOfEach(union("u", 6)),
		"a union of four":               oneOfEach(union("u", 3, 2, 1, 0)),
		"a union of four the same":      oneOfEach(union("u", 2, 2, 2, 2)),
		"a union of based types":        oneOfEach(leaning("b", impl.SmBased, 4), leaning("c", impl.SmBased, 9), union("u", 10, 9, 4)),
		"the place right below, based":  {simple("a", impl.SmText), leaning("b", impl.SmBased, 0)},
		"the place right below, a list": {simple("a", impl.SmText), leaning("b", impl.SmList, 0)},
		"the place right below, union":  {simple("a", impl.SmText), union("b", 0)},
		"names of capitals":             {simple("a", impl.SmText), simple("A", impl.SmText)},
		"a name as long as may be":      {simple(strings.Repeat("n", impl.MaxName), impl.SmDate)},
		"thirty types":                  manyTypes(impl.MaxTypes),
	} {
		rightTypes(t, what, list)
	}
}

// manyTypes is a type and as many based on one another as make n.
func manyTypes(n int) []impl.Simple {
	list := []impl.Simple{simple("t0", impl.SmInteger)}
	for i := 1; i < n; i++ {
		list = append(list, leaning("t"+strconv.Itoa(i), impl.SmBased, int64(i-1)))
	}
	return list
}

func TestWrongTypes(t *testing.T) {
	for what, list := range map[string][]impl.Simple{
		"31 types":                 manyTypes(impl.MaxTypes + 1),
		"no name":                  {simple("", impl.SmText)},
		"a name that is none":      {simple("1a", impl.SmText)},
		"a qualified name":         {simple("p:a", impl.SmText)},
		"a name too long":          {simple(strings.Repeat("n", impl.MaxName+1), impl.SmText)},
		"a name with a blank":      {simple(" a", impl.SmText)},
		"names alike":              {simple("a", impl.SmText), simple("a", impl.SmText)},
		"names alike, apart":       {simple("a", impl.SmText), simple("b", impl.SmBool), simple("a", impl.SmDate)},
		"the zero value":           {{}},
		"a list of itself":         {leaning("a", impl.SmList, 0)},
		"a based type of itself":   {leaning("a", impl.SmBased, 0)},
		"a union of itself":        {union("a", 0)},
		"a list of itself, later":  oneOfEach(leaning("a", impl.SmList, nextPlace)),
		"based on itself, later":   oneOfEach(leaning("a", impl.SmBased, nextPlace)),
		"a union with itself":      oneOfEach(union("a", 0, nextPlace)),
		"a list of a later one":    oneOfEach(leaning("a", impl.SmList, nextPlace+1), simple("b", impl.SmText)),
		"based on a later one":     oneOfEach(leaning("a", impl.SmBased, nextPlace+1), simple("b", impl.SmText)),
		"a union of a later one":   oneOfEach(union("a", nextPlace+1), simple("b", impl.SmText)),
		"a union of none":          oneOfEach(union("a")),
		"a union of five":          oneOfEach(union("a", 0, 1, 2, 3, 4)),
		"a union of five the same": oneOfEach(union("a", 0, 0, 0, 0, 0)),
		"a list of a list":         oneOfEach(leaning("a", impl.SmList, listPlace)),
		"a list of a union":        oneOfEach(leaning("a", impl.SmList, unionPlace)),
		"a union of a list":        oneOfEach(union("a", listPlace)),
		"a union of a union":       oneOfEach(union("a", 0, unionPlace)),
		"a list of a based list":   oneOfEach(leaning("b", impl.SmBased, listPlace), leaning("a", impl.SmList, nextPlace)),
		"a union of a based list":  oneOfEach(leaning("b", impl.SmBased, listPlace), union("a", nextPlace)),
		"a union of a based union": oneOfEach(leaning("b", impl.SmBased, unionPlace), union("a", 0, 1, 2, nextPlace)),
		"a list of a based union":  oneOfEach(leaning("b", impl.SmBased, unionPlace), leaning("a", impl.SmList, nextPlace)),
		"the last one wrong":       append(manyTypes(impl.MaxTypes-1), simple("t", 0)),
		"the first one wrong":      {simple("a", 11), simple("b", impl.SmText)},
	} {
		wrongTypes(t, what, list)
	}
}

func TestWrongKindsAndPlaces(t *testing.T) {
	for _, kind := range append([]int64{-1, 0, 11, 12, 257}, farOff...) {
		wrongTypes(t, "a kind", []impl.Simple{simple("a", kind)})
		wrongTypes(t, "a kind behind others", oneOfEach(simple("a", kind)))
	}
	for _, place := range append([]int64{-1, nextPlace, nextPlace + 1, 30, 256}, farOff...) {
		wrongTypes(t, "a list's base", oneOfEach(leaning("a", impl.SmList, place)))
		wrongTypes(t, "a base", oneOfEach(leaning("a", impl.SmBased, place)))
		wrongTypes(t, "a member", oneOfEach(union("a", place)))
		wrongTypes(t, "a fourth member", oneOfEach(union("a", 0, 1, 2, place)))
	}
}

func TestBasesAndMembersWhereTheKindHasNone(t *testing.T) {
	for kind := int64(impl.SmText); kind <= impl.SmBased; kind++ {
		one := simple("a", kind)
		switch kind {
		case impl.SmUnion:
			one.Members = []int64{0}
		case impl.SmList, impl.SmBased:
			one.Members = []int64{0}
			wrongTypes(t, "members", oneOfEach(one))
			continue
		default:
			more := one
			more.Members = []int64{0}
			wrongTypes(t, "members", oneOfEach(more))
		}
		rightTypes(t, "neither", oneOfEach(one))
		for _, base := range append([]int64{-1, 1, 8}, farOff...) {
			one.Base = base
			wrongTypes(t, "a base", oneOfEach(one))
		}
	}
}

func TestLongsOfTypes(t *testing.T) {
	ends := append([]int64{-2, -1, 0, 1, 999, 1000, 1001}, farOff...)
	for kind := int64(impl.SmText); kind <= impl.SmUnion; kind++ {
		hasLong := kind <= impl.SmName || kind == impl.SmList
		for _, low := range ends {
			for _, high := range ends {
				want := low == -1 && high == -1 || hasLong && low >= -1 && low <= 1000 && high >= -1 && high <= 1000 && (low <= high || high == -1)
				for _, based := range []bool{false, true} {
					list := saying(based, kind, func(one *impl.Simple) { one.MinLong, one.MaxLong = low, high })
					if impl.SimplesOk(list) != want {
						t.Fatalf("kind %d, based %v, %d .. %d: not %v", kind, based, low, high, want)
					}
				}
			}
		}
	}
}

func TestLowAndHighOfTypes(t *testing.T) {
	const early, later = "2024-01-01T00:00:00Z", "2024-01-01T00:00:01+00:00"
	for _, r := range []struct {
		kind      int64
		low, high string
		want      bool
	}{
		{impl.SmDecimal, "", "", true}, {impl.SmDecimal, "1.5", "", true}, {impl.SmDecimal, "", "-.5", true}, {impl.SmDecimal, "1", "1.0", true}, {impl.SmDecimal, "+01", " 1 ", true}, {impl.SmDecimal, "0.1", "0.09", false}, {impl.SmDecimal, "-1", "-2", false}, {impl.SmDecimal, "-2", "-1", true}, {impl.SmDecimal, "9", "10", true},
		{impl.SmDecimal, "x", "", false}, {impl.SmDecimal, "", "x", false}, {impl.SmDecimal, " ", "", false}, {impl.SmDecimal, "", "\t", false}, {impl.SmDecimal, nines(61), "", false}, {impl.SmDecimal, nines(60), "", true}, {impl.SmDecimal, early, later, false}, {impl.SmDecimal, "1", "true", false}, {impl.SmDecimal, "1 2", "3", false}, {impl.SmDecimal, "1\xff", "", false},
		{impl.SmInteger, "", "", true}, {impl.SmInteger, "5", "5", true}, {impl.SmInteger, "5", "4", false}, {impl.SmInteger, "-0", "0", true}, {impl.SmInteger, "1.0", "", false}, {impl.SmInteger, "", "1.", false}, {impl.SmInteger, "\n007", "7\r", true}, {impl.SmInteger, "0", "010", true}, {impl.SmInteger, early, "", false},
		{impl.SmDate, "", "", true}, {impl.SmDate, early, "", true}, {impl.SmDate, "", later, true}, {impl.SmDate, early, later, true}, {impl.SmDate, later, early, false}, {impl.SmDate, early, early, true}, {impl.SmDate, "2024-01-01T01:00:00+01:00", early, true}, {impl.SmDate, early, "2023-12-31T23:00:00-01:00", true}, {impl.SmDate, " " + early, later + "\n", true},
		{impl.SmDate, early, "2024-01-01T00:00:00", false}, {impl.SmDate, early, "2024-01-01T14:00:00", false}, {impl.SmDate, early, "2024-01-01T14:00:01", true}, {impl.SmDate, "2024-01-01T00:00:00", later, false}, {impl.SmDate, "2023-12-31T09:59:59", early, true}, {impl.SmDate, "2023-12-31T10:00:00", early, false}, {impl.SmDate, "2024-01-01T14:00:01", early, false},
		{impl.SmDate, "5", "", false}, {impl.SmDate, "", "2024-02-30T00:00:00", false}, {impl.SmDate, " ", "", false},
	} {
		for _, based := range []bool{false, true} {
			list := saying(based, r.kind, func(one *impl.Simple) { one.Low, one.High = r.low, r.high })
			if impl.SimplesOk(list) != r.want {
				t.Errorf("%+v, based %v", r, based)
			}
		}
	}
	for _, kind := range []int64{impl.SmText, impl.SmToken, impl.SmName, impl.SmBool, impl.SmList, impl.SmUnion} {
		for _, end := range []string{"1", "a", "true", " ", early} {
			for _, based := range []bool{false, true} {
				wrongTypes(t, "a low", saying(based, kind, func(one *impl.Simple) { one.Low = end }))
				wrongTypes(t, "a high", saying(based, kind, func(one *impl.Simple) { one.High = end }))
			}
		}
	}
}

// What a type says is held against its Kind alone, not against what its base says.
func TestBasedTypesMaySayWhatTheBaseRefuses(t *testing.T) {
	narrow := simple("narrow", impl.SmInteger)
	narrow.Low, narrow.High, narrow.Enum, narrow.Pattern = "0", "10", []string{"3"}, "3"
	wide := leaning("wide", impl.SmBased, nextPlace)
	wide.Low, wide.High, wide.Enum, wide.Pattern = "-5", "99", []string{"77", "003"}, "\\d"
	rightTypes(t, "a wide one on a narrow one", oneOfEach(narrow, wide))
	own := simple("own", impl.SmToken)
	own.MinLong, own.MaxLong, own.Pattern, own.Enum = 2, 3, "b+", []string{"", "a", " long text "}
	rightTypes(t, "an Enum that the type itself refuses", oneOfEach(own))
}

func TestPatternsOfTypes(t *testing.T) {
	right := []string{"", "()", "a", ".*", "[a-z]+|\\d{2,}", " a ", strings.Repeat("a", 60), "((a{0,20}){0,20}){0,5}"}
	wrong := []string{"(", "a{", "a**", "]", "[b-a]", "\\x", "a\xff", strings.Repeat("a", 61), strings.Repeat("[aa]", 101), "((a{0,20}){0,20}){0,6}"}
	for kind := int64(impl.SmText); kind <= impl.SmUnion; kind++ {
		for _, based := range []bool{false, true} {
			for _, pattern := range right {
				list := saying(based, kind, func(one *impl.Simple) { one.Pattern = pattern })
				if impl.SimplesOk(list) != (kind <= impl.SmDate || pattern == "") {
					t.Errorf("kind %d, based %v: %q", kind, based, pattern)
				}
			}
			for _, pattern := range wrong {
				wrongTypes(t, "a pattern", saying(based, kind, func(one *impl.Simple) { one.Pattern = pattern }))
			}
		}
	}
}

// kindTexts has of each Kind texts that it takes, and texts that it refuses.
func kindTexts() map[int64][2][]string {
	date := "2024-02-29T12:00:00"
	return map[int64][2][]string{
		impl.SmText:    {{"", " ", "a", " a\tb\r\n", "é€😀", "\ufffd", "1"}, {"\x00", "\x01", "a\xff", "\ufffe", "\v", strings.Repeat("a", impl.MaxText+1)}},
		impl.SmToken:   {{"", " ", "a", " a\tb\r\n", "é", "true"}, {"\x00", "\xff", " \f", "\uffff", strings.Repeat(" ", impl.MaxText+1)}},
		impl.SmName:    {{"a", " _b.1-\n", strings.Repeat("n", 40)}, {"", " ", "1", "a b", "p:a", "é", "a\x00", strings.Repeat("n", 41)}},
		impl.SmBool:    {{"true", "false", "1", "0", "\t1 ", "\ntrue\r"}, {"", "True", "TRUE", "yes", "01", "+1", "1.0", "t", "true false", "true\x00"}},
		impl.SmDecimal: {{"0", "-0", "+01.50", " 5 ", "1.", ".5", nines(60)}, {"", " ", "1e5", "1 2", "- 1", ".", "+", nines(61), "1\x00", "0x1", "NaN"}},
		impl.SmInteger: {{"0", "-007", "+5", "\r12\n", "-0", nines(60)}, {"", "1.0", "1.", ".5", "x", "1 2", nines(61), "--1", "."}},
		impl.SmDate:    {{date, date + "Z", date + "-00:00", date + "+14:00", " " + date + "-13:59\n"}, {"", "2024-02-29", "2023-02-29T12:00:00", date + "+14:01", "5", date + " Z", date + "\x00"}},
	}
}

func TestEnumsOfTypes(t *testing.T) {
	for kind, texts := range kindTexts() {
		for _, based := range []bool{false, true} {
			rightTypes(t, "texts taken", saying(based, kind, func(one *impl.Simple) { one.Enum = texts[0] }))
			for _, s := range texts[1] {
				wrongTypes(t, "a text refused", saying(based, kind, func(one *impl.Simple) { one.Enum = []string{s} }))
				wrongTypes(t, "a last text refused", saying(based, kind, func(one *impl.Simple) { one.Enum = []string{texts[0][0], s} }))
			}
			most := slices.Repeat([]string{texts[0][0]}, impl.MaxEnum)
			rightTypes(t, "twelve texts", saying(based, kind, func(one *impl.Simple) { one.Enum = most }))
			wrongTypes(t, "13 texts", saying(based, kind, func(one *impl.Simple) { one.Enum = append(most, most[0]) }))
		}
	}
	for _, kind := range []int64{impl.SmList, impl.SmUnion} {
		for _, based := range []bool{false, true} {
			for _, s := range []string{"", "1", "true"} {
				wrongTypes(t, "an Enum", saying(based, kind, func(one *impl.Simple) { one.Enum = []string{s} }))
			}
			rightTypes(t, "an empty Enum", saying(based, kind, func(one *impl.Simple) { one.Enum = []string{} }))
		}
	}
}

func TestPrimitives(t *testing.T) {
	list := oneOfEach(leaning("a", impl.SmBased, 4), leaning("b", impl.SmBased, nextPlace), leaning("c", impl.SmBased, listPlace), leaning("d", impl.SmBased, 11), leaning("e", impl.SmBased, unionPlace), leaning("f", impl.SmBased, 13))
	for n, want := range []int64{1, 2, 3, 4, 5, 6, 7, 8, 9, impl.SmDecimal, impl.SmDecimal, impl.SmList, impl.SmList, impl.SmUnion, impl.SmUnion} {
		if got := impl.Primitive(list, int64(n)); got != want {
			t.Errorf("%d comes to %d", n, got)
		}
	}
	for _, n := range append([]int64{-1, int64(len(list)), 30}, farOff...) {
		if got := impl.Primitive(list, n); got != -1 {
			t.Errorf("%d comes to %d", n, got)
		}
		if value, ok := impl.ValueOf(list, n, "1"); ok || value != "" || impl.MemberOf(list, n, "1") != -1 || impl.SameValue(list, n, "1", "1") {
			t.Errorf("there is a type %d", n)
		}
	}
	if impl.Primitive(nil, 0) != -1 || impl.MemberOf(nil, 0, "") != -1 || impl.SameValue(nil, 0, "", "") {
		t.Error("there is a type where there is none")
	}
}

// typesRight is chapter 7's own list of what right types are, by the oracles of values.
func typesRight(list []impl.Simple) bool {
	names := map[string]bool{}
	for i, one := range list {
		names[one.Name] = true
		below := func(n int64) bool { return 0 <= n && n < int64(i) }
		leansOn := one.Members
		if one.Kind == impl.SmList || one.Kind == impl.SmBased {
			leansOn = append(slices.Clone(leansOn), one.Base)
		} else if one.Base != 0 {
			return false
		}
		if !nameForm.MatchString(one.Name) || one.Kind < 1 || one.Kind > 10 || (one.Kind == impl.SmUnion) != (len(one.Members) > 0) || len(one.Members) > 4 {
			return false
		}
		for _, n := range leansOn {
			if !below(n) || one.Kind != impl.SmBased && primitiveOf(list, n) > impl.SmDate {
				return false
			}
		}
		if !saysRight(one, primitiveOf(list, int64(i))) {
			return false
		}
	}
	return len(list) <= 30 && len(names) == len(list)
}

func saysRight(one impl.Simple, comes int64) bool {
	if one.MinLong < -1 || one.MaxLong < -1 || max(one.MinLong, one.MaxLong) > 1000 || one.MaxLong >= 0 && one.MinLong > one.MaxLong {
		return false
	}
	if (one.MinLong >= 0 || one.MaxLong >= 0) && comes > impl.SmName && comes != impl.SmList {
		return false
	}
	if one.Low+one.High != "" && (comes < impl.SmDecimal || comes > impl.SmDate) {
		return false
	}
	texts := slices.Clone(one.Enum)
	for _, end := range []string{one.Low, one.High} {
		if end != "" {
			texts = append(texts, end)
		}
	}
	for _, s := range texts {
		if _, ok := kindValue(comes, s); !ok {
			return false
		}
	}
	if one.Low != "" && one.High != "" && !slices.Contains([]int64{-1, 0}, orderBy(comes, one.Low, one.High)) {
		return false
	}
	if comes > impl.SmDate {
		return one.Pattern == "" && len(one.Enum) == 0
	}
	return len(one.Enum) <= 12 && (one.Pattern == "" || isExpression(one.Pattern))
}

func (m maker) place(n int) int64 {
	if m.Intn(60) == 0 {
		return int64(m.Intn(n+3) - 1)
	}
	return int64(m.Intn(max(n, 1)))
}

func (m maker) nearDate() string {
	return m.pick("2024-01-01T", "2023-12-31T", "2024-01-02T") + m.pick("00:00:00", "10:00:00", "14:00:00", "14:00:01", "23:59:59") + m.pick("", "Z", "+00:00", "-00:00", "+01:00", "-14:00")
}

// kindText is a text that the Kind mostly takes, with blanks around it at times.
func (m maker) kindText(kind int64) string {
	if m.Intn(25) == 0 {
		kind = int64(m.Intn(9))
	}
	around := m.pick("", "", "", " ", "\t", "\n\r")
	switch kind {
	case impl.SmName:
		return around + m.pick("a", "b", "ab", "a.1", "_") + around
	case impl.SmBool:
		return around + m.pick("true", "false", "1", "0") + around
	case impl.SmDecimal:
		return around + m.pick("", "", "+", "-", "0", "-0") + m.pick("0", "1", "5", "10", "99", "1.5", "1.50", ".5", "5.") + around
	case impl.SmInteger:
		return around + m.pick("", "", "+", "-", "0", "-0") + m.pick("0", "1", "5", "10", "99") + around
	case impl.SmDate:
		return around + m.nearDate() + around
	case 0:
		return m.pick("\x00", "\xff", "é", "1e5", "")
	}
	return m.some(4, func() string { return m.pick("a", "b", "1", "0", "true", "é", ".", "-", " ", "  ", "\t") })
}

func (m maker) someLong() int64 {
	if m.Intn(60) == 0 {
		return int64(m.pick("x", "xx", "xxx")[0]) * 10
	}
	return int64(m.Intn(6) - 1)
}

// say lets a type say something of what it comes to.
func (m maker) say(one *impl.Simple, comes int64) {
	if m.Intn(40) == 0 {
		comes = int64(1 + m.Intn(9))
	}
	if (comes <= impl.SmName || comes == impl.SmList) && m.Intn(3) == 0 {
		one.MinLong, one.MaxLong = m.someLong(), m.someLong()
		if one.MaxLong != -1 && one.MaxLong < one.MinLong && m.Intn(8) > 0 {
			one.MinLong, one.MaxLong = one.MaxLong, one.MinLong
		}
	}
	if comes >= impl.SmDecimal && comes <= impl.SmDate && m.Intn(3) == 0 {
		one.Low = m.pick("", m.kindText(comes))
		one.High = m.pick("", m.kindText(comes))
		if one.Low != "" && one.High != "" && orderBy(comes, one.Low, one.High) == 1 && m.Intn(8) > 0 {
			one.Low, one.High = one.High, one.Low
		}
	}
	if comes <= impl.SmDate && m.Intn(4) == 0 {
		one.Pattern = m.pick(".*", "[a-z0-9 ]*", "\\s*[+\\-]?\\d+\\s*", "\\d*", "[^ ]*", "(true|1| 1)", "\\S.*", ".*Z", "()", "a{1,3}| *", "[0-9+\\-T:.]+", "(")
	}
	if comes <= impl.SmDate && m.Intn(4) == 0 {
		for range 1 + m.Intn(5) {
			one.Enum = append(one.Enum, m.kindText(comes))
		}
	}
}

// types are mostly right.
func (m maker) types() []impl.Simple {
	var list []impl.Simple
	for i := range 1 + m.Intn(9) {
		one := simple("t"+strconv.Itoa(i), int64(1+m.Intn(7)))
		if m.Intn(150) == 0 {
			one.Name = m.pick("", "t0", "1", "é")
		}
		var single []int64
		for n := range list {
			if primitiveOf(list, int64(n)) <= impl.SmDate || m.Intn(60) == 0 {
				single = append(single, int64(n))
			}
		}
		comes := one.Kind
		if len(single) > 0 && m.Intn(3) > 0 {
			one.Kind = int64(impl.SmList + m.Intn(3))
			comes = one.Kind
			switch one.Kind {
			case impl.SmList:
				one.Base = single[m.Intn(len(single))]
			case impl.SmUnion:
				for range 1 + m.Intn(4) {
					one.Members = append(one.Members, single[m.Intn(len(single))])
				}
			default:
				one.Base = m.place(len(list))
				if one.Base < 0 || one.Base >= int64(len(list)) {
					return append(list, one)
				}
				comes = primitiveOf(list, one.Base)
			}
		}
		m.say(&one, comes)
		list = append(list, one)
	}
	return list
}

func cloneTypes(list []impl.Simple) []impl.Simple {
	out := slices.Clone(list)
	for i := range out {
		out[i].Members, out[i].Enum = slices.Clone(out[i].Members), slices.Clone(out[i].Enum)
	}
	return out
}

func TestTypesAgainstTheList(t *testing.T) {
	m := maker{rand.New(rand.NewSource(71))}
	right := 0
	for range 20000 {
		list := m.types()
		want := typesRight(list)
		if impl.SimplesOk(list) != want {
			t.Fatalf("%+v: not %v", list, want)
		}
		if want {
			right++
		}
	}
	if right < 5000 || right > 19000 {
		t.Errorf("%d are right", right)
	}
}

// spareTypes gives lists room behind them, with marks there.
func spareTypes(list []impl.Simple) []impl.Simple {
	out := append(cloneTypes(list), simple("behind", 77))[:len(list)]
	for i := range out {
		out[i].Members = append(out[i].Members, math.MaxInt64)[:len(out[i].Members)]
		out[i].Enum = append(out[i].Enum, "behind")[:len(out[i].Enum)]
	}
	return out
}

func TestTypesAreLeftAsTheyAre(t *testing.T) {
	m := maker{rand.New(rand.NewSource(72))}
	for range 500 {
		list := spareTypes(m.types())
		kept := spareTypes(list)
		ok := impl.SimplesOk(list)
		for n := range int64(len(list)) {
			a, b := m.kindText(primitiveOr(list, n)), m.kindText(primitiveOr(list, n))
			value, has := impl.ValueOf(list, n, a)
			member, same, comes := impl.MemberOf(list, n, a), impl.SameValue(list, n, a, b), impl.Primitive(list, n)
			if again, more := impl.ValueOf(list, n, a); again != value || more != has || impl.MemberOf(list, n, a) != member || impl.SameValue(list, n, a, b) != same || impl.Primitive(list, n) != comes {
				t.Fatalf("%+v answers in two ways", list)
			}
		}
		if impl.SimplesOk(list) != ok || !reflect.DeepEqual(list[:len(list)+1], kept[:len(kept)+1]) {
			t.Fatalf("%+v was changed", kept)
		}
		for i := range list {
			if !slices.Equal(list[i].Members[:len(list[i].Members)+1], kept[i].Members[:len(kept[i].Members)+1]) || !slices.Equal(list[i].Enum[:len(list[i].Enum)+1], kept[i].Enum[:len(kept[i].Enum)+1]) {
				t.Fatalf("%+v was changed behind its lists", kept)
			}
		}
	}
}

// primitiveOr is SmText where the types are not right.
func primitiveOr(list []impl.Simple, n int64) int64 {
	if comes := impl.Primitive(list, n); comes > 0 {
		return comes
	}
	return impl.SmText
}
