package tests

import (
	"fmt"
	"html"
	"math/rand"
	"regexp"
	"slices"
	"strconv"
	"strings"
	"testing"

	"loop.example/g00262/impl"
)

// What a line of marks looks like, Value being made of bytes that stay and of the marks that stand for others.
var markForm = regexp.MustCompile(`^([g-])([n-])([d-]) (-1|[0-9]|[12][0-9]|30) ((?:[^&<>"\t\n\r]|&amp;|&lt;|&gt;|&quot;|&#9;|&#10;|&#13;)*)$`)

// readMarksBy takes a text apart by the form of its lines.
func readMarksBy(s string) ([]impl.Mark, bool) {
	lines := strings.Split(s, "\n")
	if lines[len(lines)-1] != "" || len(lines) > impl.MaxItems+1 {
		return nil, false
	}
	var marks []impl.Mark
	for _, line := range lines[:len(lines)-1] {
		parts := markForm.FindStringSubmatch(line)
		if parts == nil {
			return nil, false
		}
		decl, _ := strconv.ParseInt(parts[4], 10, 64)
		value := html.UnescapeString(strings.ReplaceAll(parts[5], "&#13;", "\r"))
		if len(value) > maxBytes || !isPlain(value) {
			return nil, false
		}
		marks = append(marks, impl.Mark{Good: parts[1] == "g", Nil: parts[2] == "n", Given: parts[3] == "d", Decl: decl, Value: value})
	}
	return marks, true
}

// marksSaid writes marks, and "" where they are not right.
func marksSaid(marks []impl.Mark) string {
	said := ""
	for _, mark := range marks {
		if mark.Decl < -1 || mark.Decl > 30 || len(mark.Value) > maxBytes || !isPlain(mark.Value) || len(marks) > 200 {
			return ""
		}
		escaped := strings.NewReplacer("&", "&amp;", "<", "&lt;", ">", "&gt;", "\"", "&quot;", "\t", "&#9;", "\n", "&#10;", "\r", "&#13;").Replace(mark.Value)
		mark.Value = ""
		said += markWords(mark) + escaped + "\n"
	}
	return said
}

// marksAndBack holds MarksText, and ReadMarks of it, against these.
func marksAndBack(t *testing.T, marks []impl.Mark, right bool) string {
	t.Helper()
	said := impl.MarksText(marks)
	if want := marksSaid(marks); said != want || (said != "") != (right && len(marks) > 0) {
		t.Fatalf("%.300v is written %.300q, not %.300q", marks, said, want)
	}
	if back, ok := impl.ReadMarks(said); right && (!ok || !slices.Equal(back, marks)) {
		t.Fatalf("%.300q is read %.300v, %v", said, back, ok)
	}
	return said
}

func sameRead(t *testing.T, s string) bool {
	t.Helper()
	marks, ok := impl.ReadMarks(s)
	want, right := readMarksBy(s)
	if ok != right || !slices.Equal(marks, want) {
		t.Fatalf("%.300q is read %.300v, %v, not %.300v, %v", s, marks, ok, want, right)
	}
	if ok && impl.MarksText(marks) != s {
		t.Fatalf("%.300q is written otherwise", s)
	}
	return ok
}

func refusedMarks(t *testing.T, s string) {
	t.Helper()
	if sameRead(t, s) {
		t.Errorf("%.300q is read", s)
	}
}

func TestMarksAndTheirTexts(t *testing.T) {
	marksAndBack(t, nil, true)
	marksAndBack(t, []impl.Mark{}, true)
	if marks, ok := impl.ReadMarks(""); !ok || len(marks) != 0 {
		t.Error(marks, ok)
	}
	for flags := range 8 {
		good, isNil, given := flags&1 != 0, flags&2 != 0, flags&4 != 0
		said := marksAndBack(t, []impl.Mark{{Good: good, Nil: isNil, Given: given, Decl: 3, Value: "v"}}, true)
		want := []string{"--- 3 v\n", "g-- 3 v\n", "-n- 3 v\n", "gn- 3 v\n", "--d 3 v\n", "g-d 3 v\n", "-nd 3 v\n", "gnd 3 v\n"}[flags]
		if said != want {
			t.Errorf("%q, not %q", said, want)
		}
	}
	for _, c := range []struct {
		mark impl.Mark
		said string
	}{
		{impl.Mark{}, "--- 0 \n"},
		{impl.Mark{Good: true, Decl: -1}, "g-- -1 \n"},
		{impl.Mark{Decl: 30, Value: " "}, "--- 30  \n"},
		{impl.Mark{Value: "a  b "}, "--- 0 a  b \n"},
		{impl.Mark{Value: "g-- 0 \ng-- 0 \n"}, "--- 0 g-- 0 &#10;g-- 0 &#10;\n"},
		{impl.Mark{Value: "\n"}, "--- 0 &#10;\n"},
		{impl.Mark{Value: "\r\n\t"}, "--- 0 &#13;&#10;&#9;\n"},
		{impl.Mark{Value: "&<>\"'"}, "--- 0 &amp;&lt;&gt;&quot;'\n"},
		{impl.Mark{Value: "&amp;&#10;"}, "--- 0 &amp;amp;&amp;#10;\n"},
		{impl.Mark{Value: "é€😀\u0085\u2028"}, "--- 0 é€😀\u0085\u2028\n"},
	} {
		if said := marksAndBack(t, []impl.Mark{c.mark}, true); said != c.said {
			t.Errorf("%+v: %q", c.mark, said)
		}
	}
	both := []impl.Mark{{Good: true, Decl: 2}, {Good: true, Decl: -1}, {Good: true, Decl: 1, Value: "two", Given: true}}
	if said := marksAndBack(t, both, true); said != "g-- 2 \ng-- -1 \ng-d 1 two\n" {
		t.Errorf("%q", said)
	}
}

func TestMarksAtTheirLimits(t *testing.T) {
	for many := range impl.MaxItems + 3 {
		marksAndBack(t, slices.Repeat([]impl.Mark{{Good: true, Value: "x"}}, many), many <= impl.MaxItems)
		if sameRead(t, strings.Repeat("g-- 0 x\n", many)) != (many <= impl.MaxItems) {
			t.Errorf("%d lines", many)
		}
	}
	for decl := int64(-3); decl <= impl.MaxDecls+3; decl++ {
		right := decl >= -1 && decl <= impl.MaxDecls
		marksAndBack(t, []impl.Mark{{Decl: decl}}, right)
		marksAndBack(t, []impl.Mark{{}, {Decl: decl}, {}}, right)
		if sameRead(t, fmt.Sprintf("g-- %d \n", decl)) != right {
			t.Errorf("Decl %d", decl)
		}
	}
	for _, decl := range farOff {
		marksAndBack(t, []impl.Mark{{Decl: decl}}, false)
		refusedMarks(t, fmt.Sprintf("g-- %d \n", decl))
	}
	for _, part := range []string{"x", "é", "\"", "\n", "&", "\r"} {
		value := strings.Repeat(part, maxBytes/len(part))
		said := marksAndBack(t, []impl.Mark{{Value: value}}, true)
		marksAndBack(t, []impl.Mark{{Value: value + "x"}}, false)
		marksAndBack(t, []impl.Mark{{}, {Value: value + part}}, false)
		if !sameRead(t, said) {
			t.Errorf("a value of %q is not read", part)
		}
		refusedMarks(t, strings.TrimSuffix(said, "\n")+"x\n")
	}
	all := slices.Repeat([]impl.Mark{{Good: true, Nil: true, Given: true, Decl: 30, Value: strings.Repeat("\"", maxBytes)}}, impl.MaxItems)
	marksAndBack(t, all, true)
}

func TestValuesThatAreNotPlain(t *testing.T) {
	for _, value := range []string{"\x00", "\x1f", "\xff", "\xed\xa0\x80", "\xc3", "a\x08b", "\ufffe", "\uffff", strings.Repeat("x", impl.MaxText+1)} {
		marksAndBack(t, []impl.Mark{{Value: value}}, false)
		marksAndBack(t, []impl.Mark{{Good: true}, {Value: value}}, false)
		refusedMarks(t, "g-- 0 "+value+"\n")
	}
	for _, mark := range []string{"&#0;", "&#31;", "&#65534;", "&#55296;", "&#1114112;"} {
		refusedMarks(t, "g-- 0 "+mark+"\n")
	}
}

func TestTextsThatAreNoMarks(t *testing.T) {
	for _, s := range []string{
		"\n", " \n", "g", "g--", "g--\n", "g-- \n", "g-- 2", "g-- 2\n", "g-- 2 ", "g-- 2 x", "g-- 2 \ng-- 2 ", "g-- 2 \n\n", "\ng-- 2 \n", "g-- 2 \n ", "g-- 2 \r\n", "g-- 2 \r", " g-- 2 \n", "g--  2 \n", "g-- \t2 \n", "g--\t2 \n", "g-- 2\t\n", "g--2 \n",
		"x-- 2 \n", "G-- 2 \n", "n-- 2 \n", "d-- 2 \n", "-g- 2 \n", "--g 2 \n", "--n 2 \n", "-d- 2 \n", "ng- 2 \n", "dng 2 \n", "gdn 2 \n", "gg- 2 \n", "gggg 2 \n", "gn 2 \n", "g- 2 \n", "- 2 \n", " 2 \n", "g--- 2 \n", "gnd- 2 \n", "gxd 2 \n", "--  2 \n",
		"g-- 02 \n", "g-- 00 \n", "g-- +2 \n", "g-- -0 \n", "g-- -01 \n", "g-- +1 \n", "g-- --1 \n", "g-- -2 \n", "g-- 31 \n", "g-- 2. \n", "g-- 2.0 \n", "g-- 1e1 \n", "g-- 0x1 \n", "g-- 1_0 \n", "g-- x \n", "g-- - \n", "g-- ٢ \n",
		"g-- 9223372036854775807 \n", "g-- 9223372036854775808 \n", "g-- -9223372036854775808 \n", "g-- -9223372036854775809 \n", "g-- 18446744073709551615 \n", "g-- 18446744073709551616 \n", "g-- 18446744073709551618 \n", "g-- 4294967298 \n", "g-- " + strings.Repeat("9", 400) + " \n", "g-- " + noughts(400) + "2 \n",
		"g-- 2 <\n", "g-- 2 >\n", "g-- 2 \"\n", "g-- 2 \t\n", "g-- 2 a\tb\n", "g-- 2 a\rb\n", "g-- 2 &\n", "g-- 2 &;\n", "g-- 2 &amp\n", "g-- 2 &apos;\n", "g-- 2 &#38;\n", "g-- 2 &#39;\n", "g-- 2 &#010;\n", "g-- 2 &#x41;\n", "g-- 2 &#65;\n", "g-- 2 &#34;\n", "g-- 2 &#60;\n", "g-- 2 &AMP;\n", "g-- 2 &amp;&\n", "g-- 2 & amp;\n", "g-- 2 &nbsp;\n",
		"g-- 2 a\nb\n", "g-- 2 \ng-- 2 <\n", "g-- 2 <\ng-- 2 \n", "\x00", "g-- 2 \x00\n", strings.Repeat("g", 100000), strings.Repeat("\n", 100000), strings.Repeat("g-- 0 \n", 100000), "g-- 0 " + strings.Repeat("&quot;", 100000) + "\n",
	} {
		refusedMarks(t, s)
	}
	for _, s := range []string{"g-- 2 \n", "--- -1 x\n", "gnd 30 '\n", "g-- 2  \n", "g-- 2 2 \n", "g-- 2 &#10;\n", "g-- 2 &amp;#10;\n", "g-- 2 ;\n", "g-- 2 \u00a0\n"} {
		if !sameRead(t, s) {
			t.Errorf("%q is refused", s)
		}
	}
}

func TestEachShortLine(t *testing.T) {
	// Each line of letters, a number and a value that is put together of such parts, right or not.
	read := 0
	for _, letters := range []string{"", "-", "--", "---", "g--", "-n-", "--d", "gnd", "gdn", "-g-", "n--", "----", "g-x"} {
		for _, one := range []string{"", " ", "  ", "\t"} {
			for _, number := range []string{"", "-", "-1", "-2", "0", "00", "1", "01", "+1", "30", "31", "-0", "x"} {
				for _, other := range []string{"", " ", "  "} {
					for _, value := range []string{"", "x", "&amp;", "&#10;", "&", "<", "\r", "&#65;", "x&quot;y"} {
						for _, end := range []string{"", "\n", "\n\n", "\r\n"} {
							if sameRead(t, letters+one+number+other+value+end) {
								read++
							}
						}
					}
				}
			}
		}
	}
	// Five groups of letters, four numbers, one or two blanks, five values; and nothing at all, which is no marks.
	if want := 5*4*2*5 + 1; read != want {
		t.Errorf("%d are read, not %d", read, want)
	}
}

func (m maker) marks() []impl.Mark {
	var marks []impl.Mark
	for range m.Intn(6) {
		mark := impl.Mark{Good: m.Intn(2) == 0, Nil: m.Intn(2) == 0, Given: m.Intn(2) == 0, Decl: int64(m.Intn(32) - 1), Value: m.words()}
		if m.Intn(60) == 0 {
			mark.Decl = int64(m.Intn(80) - 20)
		}
		if m.Intn(60) == 0 {
			mark.Value += m.pick("\x00", "\xff", "\ufffe")
		}
		marks = append(marks, mark)
	}
	return marks
}

func TestRandomMarks(t *testing.T) {
	m := maker{rand.New(rand.NewSource(124))}
	read := 0
	for range 20000 {
		marks := append(m.marks(), impl.Mark{Value: "behind"})
		kept := slices.Clone(marks)
		marks = marks[:len(marks)-1]
		said := impl.MarksText(marks)
		marksAndBack(t, marks, said != "" || len(marks) == 0)
		if impl.MarksText(marks) != said || !slices.Equal(marks[:len(marks)+1], kept) {
			t.Fatalf("%+v was changed, or is written in two ways", kept)
		}
		if said == "" {
			continue
		}
		// A byte more, less, or another one.
		at := m.Intn(len(said))
		other := m.pick("g", "n", "d", "-", " ", "0", "1", "3", "\n", "&", ";", "#", "<", "a", "\t")
		for _, s := range []string{said[:at] + said[at+1:], said[:at] + other + said[at:], said[:at] + other + said[at+1:]} {
			if sameRead(t, s) {
				read++
			}
		}
	}
	if read < 3000 || read > 50000 {
		t.Errorf("%d are read", read)
	}
}

func TestMarksOfDocumentsComeBack(t *testing.T) {
	m := maker{rand.New(rand.NewSource(125))}
	for range 1500 {
		s := m.rightOne()
		marks, _ := impl.Assess(s, m.docFor(s))
		marksAndBack(t, marks, true)
		one, ok := impl.ReadMarks(impl.MarksText(marks))
		for i := range one[:cap(one)] {
			one[:cap(one)][i] = impl.Mark{Value: "changed"}
		}
		if other, again := impl.ReadMarks(impl.MarksText(marks)); !ok || !again || !slices.Equal(other, marks) {
			t.Fatal("two readings share memory")
		}
	}
}
