package tests

import (
	"math/big"
	"math/rand"
	"regexp"
	"slices"
	"strconv"
	"strings"
	"testing"
	"unicode/utf8"

	"loop.example/g00262/impl"
)

var (
	nameForm    = regexp.MustCompile(`\A[A-Za-z_][A-Za-z_0-9.\-]{0,39}\z`)
	decimalForm = regexp.MustCompile(`\A[+-]?([0-9]+(\.[0-9]*)?|\.[0-9]+)\z`)
	plainForm   = regexp.MustCompile(`\A[\t\n\r\x20-\x{fffd}\x{10000}-\x{10ffff}]*\z`)
)

func isPlain(s string) bool {
	return len(s) <= impl.MaxText && utf8.ValidString(s) && plainForm.MatchString(s)
}

// kindValue is the value by one of the Kinds that lean on none.
func kindValue(kind int64, s string) (string, bool) {
	t := whiteOf(s, 2)
	value, ok := "", false
	switch kind {
	case impl.SmText:
		value, ok = s, true
	case impl.SmToken:
		value, ok = t, true
	case impl.SmName:
		value, ok = t, nameForm.MatchString(t)
	case impl.SmBool:
		value, ok = map[string]string{"true": "true", "1": "true", "false": "false", "0": "false"}[t], regexp.MustCompile(`\A(true|false|1|0)\z`).MatchString(t)
	case impl.SmDecimal, impl.SmInteger:
		if decimalForm.MatchString(t) && (kind == impl.SmDecimal || !strings.Contains(t, ".")) {
			r, _ := new(big.Rat).SetString(t)
			d, right := decOfRat(r)
			value, ok = impl.DecText(d), right
		}
	case impl.SmDate:
		if d, right := dateOf(t); right {
			value, ok = impl.DateText(d), true
		}
	}
	if !ok || !isPlain(s) {
		return "", false
	}
	return value, true
}

// orderBy is the order of two texts by a Kind that has one; 3 when one has no value.
func orderBy(kind int64, a, b string) int64 {
	valueA, okA := kindValue(kind, a)
	valueB, okB := kindValue(kind, b)
	if !okA || !okB {
		return 3
	}
	if kind == impl.SmDate {
		dateA, _ := dateOf(valueA)
		dateB, _ := dateOf(valueB)
		return orderOf(dateA, dateB)
	}
	ratA, _ := new(big.Rat).SetString(valueA)
	ratB, _ := new(big.Rat).SetString(valueB)
	return int64(ratA.Cmp(ratB))
}

// valueIn is for right types: the value and the member that gives it.
func valueIn(list []impl.Simple, n int64, s string) (string, int64, bool) {
	one, comes, member := list[n], primitiveOf(list, n), n
	value, ok := "", false
	switch one.Kind {
	case impl.SmList:
		ok = true
		var values []string
		for word := range strings.FieldsSeq(whiteOf(s, 2)) {
			part, _, has := valueIn(list, one.Base, word)
			values, ok = append(values, part), ok && has
		}
		value = strings.Join(values, " ")
	case impl.SmUnion:
		for _, m := range slices.Backward(one.Members) {
			if part, _, has := valueIn(list, m, s); has {
				value, member, ok = part, m, true
			}
		}
	case impl.SmBased:
		var below int64
		value, below, ok = valueIn(list, one.Base, s)
		if comes == impl.SmUnion {
			member = below
		}
	default:
		value, ok = kindValue(one.Kind, s)
	}
	if !ok || !isPlain(s) || !saysYes(one, comes, value, s) {
		return "", -1, false
	}
	return value, member, true
}

func saysYes(one impl.Simple, comes int64, value, s string) bool {
	long := int64(len([]rune(value)))
	if comes == impl.SmList {
		long = int64(len(strings.Fields(value)))
	}
	if one.MinLong >= 0 && long < one.MinLong || one.MaxLong >= 0 && long > one.MaxLong {
		return false
	}
	if one.Low != "" && !slices.Contains([]int64{-1, 0}, orderBy(comes, one.Low, value)) {
		return false
	}
	if one.High != "" && !slices.Contains([]int64{-1, 0}, orderBy(comes, value, one.High)) {
		return false
	}
	if seen := s; one.Pattern != "" {
		if comes != impl.SmText {
			seen = whiteOf(s, 2)
		}
		list, _ := impl.ReadRegex(one.Pattern)
		if charsIn := len([]rune(seen)); charsIn > mostTextChars || !takenBy(list, seen) {
			return false
		}
	}
	listed := len(one.Enum) == 0
	for _, text := range one.Enum {
		other, _ := kindValue(comes, text)
		listed = listed || other == value
	}
	return listed
}

// valued wants a value; refused wants none.
func valued(t *testing.T, list []impl.Simple, n int64, s, want string) {
	t.Helper()
	value, ok := impl.ValueOf(list, n, s)
	if !ok || value != want {
		t.Errorf("%q by %+v: %q %v, not %q", s, list[n], value, ok, want)
	}
	if !impl.SameValue(list, n, s, s) || impl.MemberOf(list, n, s) == -1 {
		t.Errorf("%q by %+v is not the same, or has no member", s, list[n])
	}
}

func refused(t *testing.T, list []impl.Simple, n int64, s string) {
	t.Helper()
	if value, ok := impl.ValueOf(list, n, s); ok || value != "" {
		t.Errorf("%q by %+v: %q %v", s, list[n], value, ok)
	}
	if impl.SameValue(list, n, s, s) || impl.MemberOf(list, n, s) != -1 {
		t.Errorf("%q by %+v is the same, or has a member", s, list[n])
	}
}

// last has a type behind oneOfEach, and its place.
func last(one impl.Simple) ([]impl.Simple, int64) {
	return oneOfEach(one), nextPlace
}

func TestValuesOfEachKind(t *testing.T) {
	list := oneOfEach()
	for kind, texts := range kindTexts() {
		for _, s := range texts[0] {
			want, ok := kindValue(kind, s)
			if !ok {
				t.Fatalf("%q is no text of %d", s, kind)
			}
			valued(t, list, kind-1, s, want)
			if got := impl.MemberOf(list, kind-1, s); got != kind-1 {
				t.Errorf("%q by %d is of %d", s, kind, got)
			}
		}
		for _, s := range texts[1] {
			refused(t, list, kind-1, s)
		}
	}
	for _, r := range []struct {
		kind    int64
		s, want string
	}{
		{impl.SmText, " \ta\r\n ", " \ta\r\n "}, {impl.SmText, "", ""}, {impl.SmToken, " \ta  b\r\n ", "a b"}, {impl.SmToken, "", ""}, {impl.SmToken, "\u00a0a ", "\u00a0a"}, {impl.SmName, "\na.b ", "a.b"},
		{impl.SmBool, "1", "true"}, {impl.SmBool, "0", "false"}, {impl.SmBool, " true\n", "true"}, {impl.SmBool, "\rfalse\t", "false"}, {impl.SmBool, "\t0 ", "false"},
		{impl.SmDecimal, "-0.0", "0"}, {impl.SmDecimal, "+.50", "0.5"}, {impl.SmDecimal, "007.", "7"}, {impl.SmDecimal, "\n-1.20\t", "-1.2"}, {impl.SmInteger, "-007", "-7"}, {impl.SmInteger, " +0 ", "0"}, {impl.SmInteger, "000", "0"},
		{impl.SmDate, " 2024-01-01T00:00:00-00:00 ", "2024-01-01T00:00:00Z"}, {impl.SmDate, "2024-01-01T00:00:00", "2024-01-01T00:00:00"}, {impl.SmDate, "2024-01-01T00:00:00+05:30", "2024-01-01T00:00:00+05:30"},
	} {
		valued(t, list, r.kind-1, r.s, r.want)
	}
}

func TestEmptyTexts(t *testing.T) {
	list := oneOfEach(leaning("texts", impl.SmList, 0), union("numbers", 4, 5, 6, 3), union("words", 5, 0), leaning("b", impl.SmBased, 2), leaning("c", impl.SmBased, 1))
	takes := []bool{true, true, false, false, false, false, false, true, true, true, false, true, false, true}
	for n, ok := range takes {
		for _, s := range []string{"", " ", "\t\r\n "} {
			want := ""
			if ok && (n == 0 || n == 11) {
				want = s
			}
			if ok {
				valued(t, list, int64(n), s, want)
			} else {
				refused(t, list, int64(n), s)
			}
		}
	}
}

func TestTextsThatAreNotPlain(t *testing.T) {
	list := oneOfEach(leaning("texts", impl.SmList, 0), union("words", 0, 1), leaning("b", impl.SmBased, 0))
	for n := range int64(len(list)) {
		for _, s := range []string{"\x00", "a\x01", "1\xff", "\xed\xa0\x80", "\ufffe", "\v", "true\f", strings.Repeat(" ", impl.MaxText) + "1"} {
			refused(t, list, n, s)
		}
	}
	longest := strings.Repeat("é", impl.MaxText/2)
	valued(t, list, 0, longest, longest)
	valued(t, list, nextPlace, longest, longest)
	valued(t, list, 5, strings.Repeat(" ", impl.MaxText-1)+"1", "1")
}

func TestListsOfValues(t *testing.T) {
	small := leaning("small", impl.SmBased, 5)
	small.Low, small.High, small.Pattern = "0", "9", "\\d\\d?"
	list := oneOfEach(small, leaning("smalls", impl.SmList, nextPlace), leaning("dates", impl.SmList, 6), leaning("bools", impl.SmList, 3), leaning("texts", impl.SmList, 0))
	valued(t, list, listPlace, " 1\t02\r\n-0 ", "1 2 0")
	valued(t, list, listPlace, "7", "7")
	refused(t, list, listPlace, "1 2.0 3")
	refused(t, list, listPlace, "1,2")
	valued(t, list, 10, "\n9 09 00", "9 9 0")
	refused(t, list, 10, "9 10")
	refused(t, list, 10, "9 009")
	refused(t, list, 10, "9 +9")
	valued(t, list, 11, "2024-01-01T00:00:00+00:00  2024-01-01T00:00:00", "2024-01-01T00:00:00Z 2024-01-01T00:00:00")
	valued(t, list, 12, "1 0 true false", "true false true false")
	valued(t, list, 13, "\u00a0 é\tb", "\u00a0 é b")
	if impl.MemberOf(list, 10, "1 2") != 10 || impl.MemberOf(list, 10, "1 20") != -1 {
		t.Error("a list's member")
	}
}

// A list's value may have more bytes than a text may have; the value stands nonetheless.
func TestListsWhoseValuesAreLonger(t *testing.T) {
	list, n := last(leaning("bools", impl.SmList, 3))
	valued(t, list, n, strings.Repeat("0 ", impl.MaxText/2), strings.TrimSuffix(strings.Repeat("false ", impl.MaxText/2), " "))
}

func TestLengths(t *testing.T) {
	type limits struct{ low, high int64 }
	kinds := map[int64]func(n int64) string{
		impl.SmText:  func(n int64) string { return strings.Repeat("é", int(n)) },
		impl.SmToken: func(n int64) string { return "  " + strings.Repeat("😀", int(n)) + "\n" },
		impl.SmName:  func(n int64) string { return "\t" + strings.Repeat("n", int(n)) },
		impl.SmList:  func(n int64) string { return "\t" + strings.Repeat("10 ", int(n)) },
	}
	for kind, textOf := range kinds {
		for _, l := range []limits{{-1, -1}, {-1, 0}, {0, -1}, {0, 0}, {-1, 3}, {3, -1}, {3, 3}, {2, 4}, {1000, -1}, {1000, 1000}, {-1, 1000}} {
			for _, based := range []bool{false, true} {
				list := saying(based, kind, func(one *impl.Simple) { one.MinLong, one.MaxLong = l.low, l.high })
				for _, n := range []int64{0, 1, 2, 3, 4, 5, 40, 999, 1000, 1001} {
					fits := n >= l.low && (l.high == -1 || n <= l.high) && (kind != impl.SmName || n > 0 && n <= 40)
					if _, ok := impl.ValueOf(list, nextPlace, textOf(n)); ok != fits {
						t.Errorf("kind %d, based %v, %v: %d long, %v", kind, based, l, n, ok)
					}
				}
			}
		}
	}
	// Of a text that is brought together it is the value that is counted.
	token := simple("token3", impl.SmToken)
	token.MinLong, token.MaxLong = 3, 3
	list, n := last(token)
	valued(t, list, n, "  a \t\n b ", "a b")
	refused(t, list, n, " ab")
	refused(t, list, n, "abcd")
}

func TestLowAndHigh(t *testing.T) {
	for _, r := range []struct {
		kind      int64
		low, high string
		yes, no   []string
	}{
		{impl.SmInteger, "0", "010", []string{"0", "-0", "10", " 0010", "5"}, []string{"-1", "11", "100", "5.0"}},
		{impl.SmInteger, "-5", "", []string{"-5", "-4", "0", nines(60)}, []string{"-6", "-10"}},
		{impl.SmInteger, "", "9", []string{"9", "-10", "0"}, []string{"10", "80"}},
		{impl.SmInteger, "7", "07", []string{"7", "+7"}, []string{"6", "8", "-7"}},
		{impl.SmDecimal, "-1.50", "1.5", []string{"-1.5", "1.5000", "0", ".5"}, []string{"-1.51", "1.500001", "2", "-2"}},
		{impl.SmDecimal, ".1", "", []string{".1", "0.10", "1"}, []string{".09", "0", "-1"}},
		{impl.SmDate, "2024-01-01T00:00:00Z", "2024-01-02T00:00:00Z", []string{"2024-01-01T00:00:00Z", "2024-01-02T00:00:00Z", "2024-01-01T14:00:00+14:00", "2024-01-01T10:00:00-14:00", "2024-01-01T12:00:00Z"}, []string{"2023-12-31T23:59:59Z", "2024-01-02T00:00:01Z", "2024-01-01T00:00:00+00:01", "2024-01-01T12:00:00", "2024-01-01T23:59:59", "2024-01-01T14:00:00"}},
		{impl.SmDate, "2024-01-01T00:00:00Z", "", []string{"2024-01-01T14:00:01", "2024-01-01T00:00:00-00:01"}, []string{"2024-01-01T14:00:00", "2024-01-01T00:00:00", "2023-12-31T10:00:00", "2023-12-31T09:59:59"}},
		{impl.SmDate, "", "2024-01-01T00:00:00Z", []string{"2023-12-31T09:59:59", "2023-12-31T23:59:59Z"}, []string{"2023-12-31T10:00:00", "2024-01-01T00:00:00", "2024-01-01T14:00:01"}},
		{impl.SmDate, "2024-01-01T00:00:00", "2024-01-01T00:00:00", []string{"2024-01-01T00:00:00"}, []string{"2024-01-01T00:00:00Z", "2024-01-01T00:00:01"}},
	} {
		for _, based := range []bool{false, true} {
			list := saying(based, r.kind, func(one *impl.Simple) { one.Low, one.High = r.low, r.high })
			for _, s := range r.yes {
				want, _ := kindValue(r.kind, s)
				valued(t, list, nextPlace, s, want)
			}
			for _, s := range r.no {
				refused(t, list, nextPlace, s)
			}
		}
	}
}

// A pattern sees the text as it was written: of what comes to SmText with its blanks, of others with these brought together, never the value.
func TestWhatAPatternSees(t *testing.T) {
	for _, r := range []struct {
		kind    int64
		pattern string
		yes, no []string
	}{
		{impl.SmText, "a", []string{"a"}, []string{" a", "a ", "a\n", "", "b"}},
		{impl.SmText, " a ", []string{" a "}, []string{"a", " a", "\ta "}},
		{impl.SmText, "\\s*a\\t", []string{"a\t", " \r\na\t"}, []string{"a", "a "}},
		{impl.SmToken, "a", []string{"a", " a", "\ta\r\n"}, []string{"b", "a a", ""}},
		{impl.SmToken, " a ", nil, []string{"a", " a ", "  a  "}},
		{impl.SmToken, "a b", []string{"a b", "a \t b", "\na\nb "}, []string{"ab", "a  c"}},
		{impl.SmName, "[a-c]+", []string{"abc", " abc "}, []string{"abd", ""}},
		{impl.SmBool, "1|false", []string{"1", " 1\n", "false"}, []string{"true", "0"}},
		{impl.SmDecimal, "\\d\\.\\d\\d", []string{"1.50", "1.00", "\t0.00 "}, []string{"1.5", "1", "01.50", "-1.50", "+1.50"}},
		{impl.SmDecimal, "1\\.5", []string{"1.5", " 1.5"}, []string{"1.50", "+1.5"}},
		{impl.SmInteger, "\\d{3}", []string{"007", "100", " 000 "}, []string{"7", "-07", "0007"}},
		{impl.SmDate, ".*Z", []string{"2024-01-01T00:00:00Z", "\n2024-01-01T00:00:00Z "}, []string{"2024-01-01T00:00:00+00:00", "2024-01-01T00:00:00"}},
		{impl.SmDate, ".*\\+00:00", []string{"2024-01-01T00:00:00+00:00"}, []string{"2024-01-01T00:00:00Z"}},
		{impl.SmText, "()", []string{""}, []string{" ", "a"}},
		{impl.SmToken, "()", []string{"", " "}, []string{"a"}},
	} {
		for _, based := range []bool{false, true} {
			list := saying(based, r.kind, func(one *impl.Simple) { one.Pattern = r.pattern })
			for _, s := range r.yes {
				want, _ := kindValue(r.kind, s)
				valued(t, list, nextPlace, s, want)
			}
			for _, s := range r.no {
				refused(t, list, nextPlace, s)
			}
		}
	}
}

func TestPatternsOfLongTexts(t *testing.T) {
	for _, kind := range []int64{impl.SmText, impl.SmToken} {
		list := saying(false, kind, func(one *impl.Simple) { one.Pattern = "[é ]*" })
		longest := strings.Repeat("é", mostTextChars)
		valued(t, list, nextPlace, longest, longest)
		refused(t, list, nextPlace, longest+"é")
		if _, ok := impl.ValueOf(list, nextPlace, longest+" "); ok != (kind == impl.SmToken) {
			t.Errorf("kind %d, a blank behind the longest: %v", kind, ok)
		}
	}
}

// Each type of a chain sees the same text, whatever stands between.
func TestPatternsDownAChain(t *testing.T) {
	first := simple("first", impl.SmDecimal)
	first.Pattern = "[0-9.]+"
	second := leaning("second", impl.SmBased, nextPlace)
	second.Pattern = "0.*"
	third := leaning("third", impl.SmBased, nextPlace+1)
	third.Pattern = ".*0"
	list := oneOfEach(first, second, third, leaning("many", impl.SmList, nextPlace+2), union("any", nextPlace+2, 0))
	valued(t, list, nextPlace+2, " 01.50\n", "1.5")
	valued(t, list, nextPlace+2, "00", "0")
	refused(t, list, nextPlace+2, "1.50")
	refused(t, list, nextPlace+2, "01.5")
	refused(t, list, nextPlace+2, "-01.50")
	valued(t, list, nextPlace+1, "01.5", "1.5")
	valued(t, list, nextPlace+3, " 00\t01.50 ", "0 1.5")
	refused(t, list, nextPlace+3, "00 1.5")
	valued(t, list, nextPlace+4, " 010 ", "10")
	valued(t, list, nextPlace+4, " 10 ", " 10 ")
}

func TestEnums(t *testing.T) {
	for _, r := range []struct {
		kind    int64
		enum    []string
		yes, no []string
	}{
		{impl.SmText, []string{"a", " b "}, []string{"a", " b "}, []string{" a", "b", "", "A"}},
		{impl.SmText, []string{""}, []string{""}, []string{" ", "a"}},
		{impl.SmToken, []string{" a\tb ", ""}, []string{"a b", "\na \r b", "", " "}, []string{"ab", "a", "b"}},
		{impl.SmName, []string{"\nred", "green "}, []string{"red", "green", " red "}, []string{"Red", "blue"}},
		{impl.SmBool, []string{"1"}, []string{"1", "true", " true"}, []string{"0", "false"}},
		{impl.SmDecimal, []string{"1.50", "-0"}, []string{"1.5", "01.500", "0", "+0.0"}, []string{"1.51", "15", "-1.5"}},
		{impl.SmInteger, []string{"007", "+8"}, []string{"7", " 08 "}, []string{"9", "-7", "7.0"}},
		{impl.SmDate, []string{"2024-01-01T00:00:00+00:00"}, []string{"2024-01-01T00:00:00Z", "2024-01-01T00:00:00-00:00"}, []string{"2024-01-01T00:00:00", "2024-01-01T00:00:01Z"}},
	} {
		for _, based := range []bool{false, true} {
			list := saying(based, r.kind, func(one *impl.Simple) { one.Enum = r.enum })
			for _, s := range r.yes {
				want, _ := kindValue(r.kind, s)
				valued(t, list, nextPlace, s, want)
			}
			for _, s := range r.no {
				refused(t, list, nextPlace, s)
			}
		}
	}
	full := simple("full", impl.SmInteger)
	for i := range impl.MaxEnum {
		full.Enum = append(full.Enum, strconv.Itoa(100+i))
	}
	list, n := last(full)
	valued(t, list, n, "0100", "100")
	valued(t, list, n, "111", "111")
	refused(t, list, n, "112")
}

// All that a type says must hold, and all that its bases say.
func TestAllThatIsSaidHolds(t *testing.T) {
	one := simple("one", impl.SmInteger)
	one.Low, one.High, one.Pattern, one.Enum = "2", "8", "\\d+", []string{"1", "2", "5", "8", "9"}
	two := leaning("two", impl.SmBased, nextPlace)
	two.Low, two.High, two.Enum = "5", "99", []string{"5", "6", "8", "9"}
	list := oneOfEach(one, two, leaning("three", impl.SmBased, nextPlace+1))
	takes := map[string][2]bool{"1": {}, "2": {true, false}, "5": {true, true}, "6": {}, "8": {true, true}, "9": {}, "+5": {}, "08": {true, true}, "x": {}, "": {}}
	for s, want := range takes {
		for i := range int64(3) {
			if _, ok := impl.ValueOf(list, nextPlace+i, s); ok != want[min(i, 1)] {
				t.Errorf("%q by %d: %v", s, i, ok)
			}
		}
	}
}

func TestUnionsAndMembers(t *testing.T) {
	small := leaning("small", impl.SmBased, 5)
	small.Low, small.High, small.Pattern = "0", "9", "\\d"
	list := oneOfEach(small, union("u", nextPlace, 3, 6, 0), leaning("v", impl.SmBased, nextPlace+1), leaning("w", impl.SmBased, nextPlace+2), union("same", 3, 3), union("turned", 0, nextPlace))
	for _, n := range []int64{nextPlace + 1, nextPlace + 2, nextPlace + 3} {
		for _, r := range []struct {
			s, value string
			member   int64
		}{{"1", "1", nextPlace}, {" 1 ", "1", nextPlace}, {"01", "01", 0}, {" 10 ", " 10 ", 0}, {"true", "true", 3}, {"\ntrue", "true", 3}, {"true true", "true true", 0}, {"2024-01-01T00:00:00+00:00", "2024-01-01T00:00:00Z", 6}, {"", "", 0}, {" ", " ", 0}} {
			valued(t, list, n, r.s, r.value)
			if got := impl.MemberOf(list, n, r.s); got != r.member {
				t.Errorf("%q by %d is of %d, not %d", r.s, n, got, r.member)
			}
		}
	}
	valued(t, list, nextPlace+4, "1", "true")
	if impl.MemberOf(list, nextPlace+4, "0") != 3 || impl.MemberOf(list, nextPlace+4, "2") != -1 {
		t.Error("a union of the same two")
	}
	valued(t, list, nextPlace+5, " 1 ", " 1 ")
	if impl.MemberOf(list, nextPlace+5, " 1 ") != 0 || impl.MemberOf(list, nextPlace, " 1 ") != nextPlace || impl.MemberOf(list, nextPlace, "10") != -1 {
		t.Error("members")
	}
	refused(t, list, unionPlace, "\x00")
	// The place told is that of the member in the list, not among the Members, and not of what the member is based on.
	if impl.MemberOf(list, unionPlace, "7") != 5 || impl.MemberOf(list, unionPlace, "true") != 3 || impl.MemberOf(list, unionPlace, "x") != 1 {
		t.Error("places of members")
	}
}

func TestSameValues(t *testing.T) {
	list := oneOfEach(leaning("bools", impl.SmList, 3), leaning("b", impl.SmBased, unionPlace))
	for _, r := range []struct {
		n    int64
		a, b string
		same bool
	}{
		{0, "a", "a", true}, {0, "a", "a ", false}, {0, "", "", true}, {0, "", " ", false}, {1, "a  b", "\na b", true}, {1, "a b", "ab", false}, {1, "", " ", true}, {2, "a", " a", true}, {2, "a", "A", false}, {3, "1", "true", true}, {3, "0", "true", false}, {3, "1", "yes", false}, {3, "yes", "yes", false}, {3, "yes", "1", false},
		{4, "1.0", "+01", true}, {4, "-0", "0", true}, {4, "1", "-1", false}, {4, "x", "y", false}, {5, "007", "7", true}, {5, "7.0", "7", false}, {6, "2024-01-01T00:00:00Z", "2024-01-01T00:00:00-00:00", true}, {6, "2024-01-01T00:00:00Z", "2024-01-01T00:00:00", false}, {listPlace, "1 02", " 1\t2", true}, {listPlace, "1 2", "12", false}, {listPlace, "", " ", true}, {unionPlace, "1", "01", true}, {unionPlace, "1", "true", false}, {unionPlace, "a", " a", true},
		{nextPlace, "1 0", "true false", true}, {nextPlace, "1 0", "0 1", false}, {nextPlace + 1, "true", " true ", true}, {nextPlace + 1, "\x00", "\x00", false}, {0, "a\xff", "a\xff", false}, {0, "", "\x00", false}, {1, " ", "\xff", false}, {listPlace, "", "x", false},
	} {
		if impl.SameValue(list, r.n, r.a, r.b) != r.same || impl.SameValue(list, r.n, r.b, r.a) != r.same {
			t.Errorf("%+v", r)
		}
	}
}

// textFor is a text that the type may take.
func (m maker) textFor(list []impl.Simple, n int64) string {
	switch one := list[n]; one.Kind {
	case impl.SmList:
		return m.some(4, func() string { return m.textFor(list, one.Base) + m.pick(" ", "\t", "\n ") })
	case impl.SmUnion:
		return m.textFor(list, one.Members[m.Intn(len(one.Members))])
	case impl.SmBased:
		if len(one.Enum) > 0 && m.Intn(2) == 0 {
			return one.Enum[m.Intn(len(one.Enum))]
		}
		return m.textFor(list, one.Base)
	default:
		if len(one.Enum) > 0 && m.Intn(2) == 0 {
			return one.Enum[m.Intn(len(one.Enum))]
		}
		return m.kindText(one.Kind)
	}
}

// hasPatternOrUnion looks at all that a type leans on.
func hasPatternOrUnion(list []impl.Simple, n int64) bool {
	one := list[n]
	leans := one.Kind == impl.SmList || one.Kind == impl.SmBased
	return one.Pattern != "" || one.Kind == impl.SmUnion || leans && hasPatternOrUnion(list, one.Base)
}

func TestValuesAgainstTheOracle(t *testing.T) {
	m := maker{rand.New(rand.NewSource(73))}
	taken, own := 0, 0
	for range 4000 {
		list := m.types()
		if !impl.SimplesOk(list) {
			continue
		}
		for range 12 {
			n := int64(m.Intn(len(list)))
			s, other := m.textFor(list, n), m.textFor(list, n)
			want, member, has := valueIn(list, n, s)
			value, ok := impl.ValueOf(list, n, s)
			if value != want || ok != has || impl.MemberOf(list, n, s) != member {
				t.Fatalf("%q by %d of %+v: %q %v of %d, not %q %v of %d", s, n, list, value, ok, impl.MemberOf(list, n, s), want, has, member)
			}
			second, _, hasOther := valueIn(list, n, other)
			if impl.SameValue(list, n, s, other) != (has && hasOther && want == second) {
				t.Fatalf("%q and %q by %d of %+v: the same, or not", s, other, n, list)
			}
			if !ok {
				continue
			}
			taken++
			if again, ok := impl.ValueOf(list, n, value); !hasPatternOrUnion(list, n) {
				own++
				if !ok || again != value {
					t.Fatalf("%q by %d of %+v has the value %q, and that has %q %v", s, n, list, value, again, ok)
				}
			}
			if base, ok := impl.ValueOf(list, list[n].Base, s); list[n].Kind == impl.SmBased && (!ok || base != value) {
				t.Fatalf("%q by %d of %+v has the value %q, by its base %q %v", s, n, list, value, base, ok)
			}
		}
	}
	if taken < 10000 || own < 5000 {
		t.Errorf("only %d texts were taken, %d of them without a pattern", taken, own)
	}
}
