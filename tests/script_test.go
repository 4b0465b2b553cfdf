package tests

import (
	"fmt"
	"regexp"
	"slices"
	"strconv"
	"strings"
	"testing"

	"loop.example/g00262/impl"
)

const tooLong = "too long\n"

// A line of a script: what stands ahead of its first blank, and behind it.
var lineForm = regexp.MustCompile(`(?s)^([^ ]*)(?: (.*))?$`)

// A teller goes through a script by chapter 13's words, and by the tests' own marks, filled documents and states.
type teller struct{ schema []impl.Schema }

func (r *teller) says(line string) string {
	parts := lineForm.FindStringSubmatch(line)
	rest := parts[2]
	both := lineForm.FindStringSubmatch(rest)
	switch parts[1] {
	case "schema":
		return r.schemaSays(rest)
	case "check", "fill":
		return r.documentSays(parts[1] == "fill", rest)
	case "match":
		list, ok := impl.ReadRegex(both[1])
		if !ok {
			return "no expression"
		}
		return map[bool]string{true: "yes", false: "not"}[impl.Matches(list, both[2])]
	case "within":
		p, okP := impl.ReadModel(both[1])
		q, okQ := impl.ReadModel(both[2])
		if !okP || !okQ {
			return "no model"
		}
		code, row, _ := searched(p, q)
		return map[int64]string{impl.WnYes: "yes", impl.WnNo: "not " + strings.Join(row, " "), impl.WnMany: "many"}[code]
	}
	return "what"
}

func (r *teller) schemaSays(rest string) string {
	list, ok := impl.ParseDoc(rest)
	s, right := impl.ReadSchema(list)
	if !ok || !right {
		return "no"
	}
	r.schema = []impl.Schema{s}
	return "ok"
}

func (r *teller) documentSays(fill bool, rest string) string {
	list, ok := impl.ParseDoc(rest)
	if !ok {
		return "no document"
	}
	if r.schema == nil {
		return "no schema"
	}
	said := ""
	for n, item := range list {
		if !markBy(r.schema[0], list, n).Good {
			said += fmt.Sprintf(" %d:%s", n, item.Name)
		}
	}
	switch {
	case !fill && said == "":
		return "valid"
	case !fill:
		return "invalid" + said
	case said != "" || !impl.DocOk(filledBy(r.schema[0], list)):
		return "invalid"
	}
	words, _ := impl.PrintDoc(filledBy(r.schema[0], list))
	return words
}

// toldBy has what each line of a script says, with its line feed, and nothing of one that says nothing; false when the script is too long.
func toldBy(script string) ([]string, bool) {
	lines := strings.Split(script, "\n")
	if lines[len(lines)-1] != "" || len(lines)-1 > 40 || len(script) > 4000 {
		return nil, false
	}
	var r teller
	var told []string
	for _, line := range lines[:len(lines)-1] {
		if strings.Trim(line, " \t\r") == "" {
			told = append(told, "")
			continue
		}
		told = append(told, r.says(line)+"\n")
	}
	return told, true
}

// runs holds what a script says against the chapter's words, and against itself when it is run once more.
func runs(t *testing.T, script string) string {
	t.Helper()
	kept := strings.Clone(script)
	said := impl.RunScript(script)
	told, ok := toldBy(script)
	want := strings.Join(told, "")
	if !ok {
		want = tooLong
	}
	if said != want {
		t.Fatalf("%.600q says %.600q, not %.600q", script, said, want)
	}
	if again := impl.RunScript(script); again != said || script != kept {
		t.Fatalf("%.600q says %.600q and then %.600q", script, said, again)
	}
	return said
}

// spoken is a line, and what it says: nothing where that is empty.
type spoken struct{ line, said string }

// saysAll holds each beginning of the lines, and all of them, against what they say.
func saysAll(t *testing.T, lines ...spoken) {
	t.Helper()
	script, want := "", ""
	for _, one := range lines {
		script += one.line + "\n"
		if one.said != "" {
			want += one.said + "\n"
		}
		if said := runs(t, script); said != want {
			t.Errorf("%.300q: the script says %.300q, not %.300q", one.line, said, want)
		}
	}
}

// saysOne holds what one line says by itself against this.
func saysOne(t *testing.T, line, want string) {
	t.Helper()
	if got := runs(t, line+"\n"); got != want+"\n" {
		t.Errorf("%.300q says %.300q, not %.300q", line, got, want)
	}
}

const (
	smallSchema = `<schema><simple name="int" kind="integer"/><complex name="t" model="(a)"><attribute name="x" type="int" default="5"/></complex><element name="a" type="int"/><element name="c" type="t"/></schema>`
	otherSchema = `<schema><simple name="word" kind="token"/><element name="a" type="word" default="two"/></schema>`
)

func TestScriptsOfSeveralLines(t *testing.T) {
	saysAll(t,
		spoken{"check <a/>", "no schema"},
		spoken{"fill <a/>", "no schema"},
		spoken{"match a+ aa", "yes"},
		spoken{"schema " + smallSchema, "ok"},
		spoken{"check <c><a>1</a></c>", "valid"},
		spoken{"check <c><a>x</a></c>", "invalid 1:a"},
		spoken{"", ""},
		spoken{"fill <c><a>1</a></c>", `<c x="5"><a>1</a></c>`},
		spoken{"fill <c x='4'><a> +1 </a></c>", `<c x="4"><a> +1 </a></c>`},
		spoken{"fill <c/>", "invalid"},
		spoken{"within (a) (a|b)", "yes"},
		spoken{"schema " + otherSchema, "ok"},
		spoken{"check <a>x</a>", "valid"},
		spoken{"check <c><a>1</a></c>", "invalid 0:c"},
		spoken{" \t\r", ""},
		spoken{"fill <a/>", `<a>two</a>`},
		spoken{"match a+ ab", "not"},
		spoken{"within (a|b)* (a*,b*)", "not b a"},
		spoken{"fly", "what"},
		spoken{"schema <schema/>", "ok"},
		spoken{"check <a>x</a>", "invalid 0:a"},
		spoken{"fill <a/>", "invalid"},
	)
	saysAll(t,
		spoken{"schema " + houseText, "ok"},
		spoken{"check <c x='1'> <a> 07 </a><b/></c>", "valid"},
		spoken{"fill <c x='1'> <a> 07 </a><b/></c>", `<c x="1" y="one" z="1"> <a> 07 </a><b>two</b></c>`},
		spoken{"check <c><a>1</a><q/></c>", "invalid 0:c 3:q"},
	)
}

func TestScriptsThatSayNothing(t *testing.T) {
	for _, script := range []string{"", "\n", "\n\n", " \n", "\t\n", "\r\n", "\r\r\n", "  \n\t\t\n\r\n\n", " \t\r \n", strings.Repeat("\n", 40), strings.Repeat(" \t\r\n", 40), strings.Repeat(" ", 3999) + "\n", strings.Repeat("\r", 3998) + "\n\n"} {
		if said := runs(t, script); said != "" {
			t.Errorf("%.100q says %q", script, said)
		}
	}
	// What is no blank of White makes a line, and so does what stands among blanks.
	for _, line := range []string{"\v", "\f", "\x00", "\u00a0", "\u0085", "\u2003", "\ufeff", " \v", "\t\x00\t", " .", ". ", "\t.", "\r.\r", "\x1f", "\x1c", "\xff", "\xa0", "\x85"} {
		saysOne(t, line, "what")
		saysAll(t, spoken{" ", ""}, spoken{line, "what"}, spoken{"\t", ""}, spoken{line, "what"}, spoken{"\r", ""})
	}
}

func TestLinesThatAreNotEnded(t *testing.T) {
	for _, script := range []string{" ", "\t", "\r", "f", "fly", "check <a/>", "schema " + smallSchema, "\n ", "\n\t", "\n\r", "\nfly", "fly\n ", "fly\nfly", "fly\nfly\n\r", "match a a\n\x00", "match a a", "within () ()", "too long", "too long\n ", "\x00", "\xff", "\v", "\u2028", "fly\u2029"} {
		if said := runs(t, script); said != tooLong {
			t.Errorf("%q says %q", script, said)
		}
		if said := runs(t, script+"\n"); said == tooLong {
			t.Errorf("%q, when ended, says %q", script, said)
		}
	}
}

func TestScriptsOfManyLines(t *testing.T) {
	for lines := 37; lines <= 44; lines++ {
		for line, says := range map[string]string{"fly": "what\n", "": "", "\t \r": "", "match a a": "yes\n", "check <a/>": "no schema\n", "schema <schema/>": "ok\n"} {
			want := strings.Repeat(says, lines)
			if lines > impl.MaxScript {
				want = tooLong
			}
			if said := runs(t, strings.Repeat(line+"\n", lines)); said != want {
				t.Errorf("%d lines %q say %q", lines, line, said)
			}
			if said := runs(t, strings.Repeat(line+"\n", lines)+"fly"); said != tooLong {
				t.Errorf("%d lines %q, and one that is not ended, say %q", lines, line, said)
			}
		}
		// Lines that say nothing count, too, wherever they stand.
		for _, at := range []int{0, 1, 20, lines - 1} {
			many := slices.Repeat([]string{"\n"}, lines)
			many[at] = "fly\n"
			want := "what\n"
			if lines > impl.MaxScript {
				want = tooLong
			}
			if said := runs(t, strings.Join(many, "")); said != want {
				t.Errorf("a word at %d of %d lines: %q", at, lines, said)
			}
		}
	}
}

func TestScriptsOfManyBytes(t *testing.T) {
	for bytes := impl.MaxLines - 3; bytes <= impl.MaxLines+3; bytes++ {
		for what, c := range map[string]struct{ ahead, with, behind, said string }{
			"a word":                 {"f", "l", "\n", "what\n"},
			"blanks":                 {"", " ", "\n", ""},
			"a text":                 {"match a* ", "a", "\n", "not\n"},
			"an expression":          {"match ", "a", "\n", "no expression\n"},
			"blanks behind a word":   {"check", " ", "\n", "no document\n"},
			"a document":             {"check <a/>", " ", "\n", "no schema\n"},
			"a document with blanks": {"schema ", " ", "<schema/>\n", "ok\n"},
			"a line behind":          {"fly\nf", "l", "\nmatch a a\n", "what\nwhat\nyes\n"},
		} {
			script := c.ahead + strings.Repeat(c.with, bytes-len(c.ahead)-len(c.behind)) + c.behind
			want := c.said
			if bytes > impl.MaxLines {
				want = tooLong
			}
			if said := runs(t, script); said != want || len(script) != bytes {
				t.Errorf("%s, %d bytes: %q", what, len(script), said)
			}
			if said := runs(t, strings.TrimSuffix(script, "\n")); said != tooLong {
				t.Errorf("%s, %d bytes, not ended: %q", what, bytes-1, said)
			}
		}
	}
	// It is bytes that count, not characters.
	for wide, want := range map[string]string{strings.Repeat("é", 1999) + "a\n": "what\n", strings.Repeat("é", 1999) + "aa\n": tooLong, strings.Repeat("é", 2000) + "\n": tooLong, strings.Repeat("😀", 999) + "aaa\n": "what\n", strings.Repeat("😀", 1000) + "\n": tooLong} {
		if said := runs(t, wide); said != want {
			t.Errorf("%d bytes: %q", len(wide), said)
		}
	}
	// Both limits met exactly, and each passed by one.
	full := strings.Repeat(strings.Repeat("f", 99)+"\n", 40)
	for script, want := range map[string]string{full: strings.Repeat("what\n", 40), full + "\n": tooLong, full[1:] + "\n": tooLong, "f" + full: tooLong, full[1:]: strings.Repeat("what\n", 40)} {
		if said := runs(t, script); said != want {
			t.Errorf("%d bytes, %d lines: %q", len(script), strings.Count(script, "\n"), said)
		}
	}
}

func TestWordsAndTheFirstBlank(t *testing.T) {
	for _, word := range []string{"schema", "check", "fill", "match", "within"} {
		alone := map[string]string{"schema": "no", "check": "no document", "fill": "no document", "match": "yes", "within": "no model"}[word]
		saysOne(t, word, alone)
		saysOne(t, word+" ", alone)
		rest := map[string]string{"schema": "<schema/>", "check": "<a/>", "fill": "<a/>", "match": "a a", "within": "(a) (a)"}[word]
		fine := map[string]string{"schema": "ok", "check": "no schema", "fill": "no schema", "match": "yes", "within": "yes"}[word]
		saysOne(t, word+" "+rest, fine)
		// Behind two blanks a document stands as well; an expression is empty, and so is a model.
		twice := map[string]string{"schema": "ok", "check": "no schema", "fill": "no schema", "match": "not", "within": "no model"}[word]
		saysOne(t, word+"  "+rest, twice)
		for _, other := range []string{
			" " + word + " " + rest, "  " + word + " " + rest, "\t" + word + " " + rest, "\r" + word + " " + rest, "\x00" + word + " " + rest, "\ufeff" + word + " " + rest,
			word + "\t" + rest, word + "\r" + rest, word + "\t" + " " + rest, word + "\r " + rest, word + "\t", word + "\r", word + "\x00", word + "\x00 " + rest, word + "\v" + rest, word + "\u00a0" + rest,
			strings.ToUpper(word) + " " + rest, strings.ToUpper(word[:1]) + word[1:] + " " + rest, word[:len(word)-1] + strings.ToUpper(word[len(word)-1:]) + " " + rest,
			word[:len(word)-1] + " " + rest, word[:1] + " " + rest, word[:len(word)-1], word + "s " + rest, word + ": " + rest, word + ". " + rest, word + word + " " + rest, word + "<a/>", word + rest, word + "=" + rest, word[1:] + " " + rest, "x" + word + " " + rest, "-" + word,
		} {
			saysOne(t, other, "what")
		}
	}
	for _, line := range []string{"fly", "what", "ok", "no", "valid", "too long", "fly check <a/>", "fly  ", "fly ", " fly", "a", "<a/>", "<schema/>", "#", "# check <a/>", "schemas", "checks", "mat", "with", "in", "for", "é", "схема", "sсhema <schema/>", "check,match", "1", "0 check <a/>", ":", "SCHEMA", "Check <a/>", "\"check\" <a/>", "ﬁll <a/>"} {
		saysOne(t, line, "what")
	}
}

func TestSchemaLines(t *testing.T) {
	for _, rest := range []string{"", " ", "x", "<", "<schema>", "<schema/", "schema/>", "</schema>", "<schema></schem>", "<schema/><schema/>", "<schema/>x", "x<schema/>", "<a/>", "<schemas/>", "<p:schema/>", "<schema x='1'/>", "<schema> </schema>", "<schema>x</schema>", "<schema><a/></schema>", "<schema><simple/></schema>", "<schema><element name='a' type='t'/></schema>", "<schema><simple name='t' kind='int'/></schema>", "<a><schema/></a>", "<schema/>\x00", "<schema/>\xff", "<!-- <schema/> -->", "<schema/> <!-- -- -->", "<?xml?><schema/>"} {
		saysOne(t, "schema "+rest, "no")
	}
	for _, rest := range []string{"<schema/>", " <schema/>", "<schema/> ", "\t<schema/>\t", "\r<schema/>\r", "<schema></schema>", "<schema ></schema >", "<!-- r --><schema/><!---->", "<schema><!-- r --></schema>", smallSchema, otherSchema, houseText, strings.ReplaceAll(smallSchema, `"`, "'"), strings.ReplaceAll(smallSchema, " ", "\r")} {
		saysOne(t, "schema "+rest, "ok")
	}
	// One that is refused leaves the schema as it was, none or one.
	saysAll(t,
		spoken{"schema <", "no"},
		spoken{"check <a>1</a>", "no schema"},
		spoken{"schema <a/>", "no"},
		spoken{"check <a>1</a>", "no schema"},
		spoken{"fill <a>1</a>", "no schema"},
		spoken{"schema " + smallSchema, "ok"},
		spoken{"check <a>1</a>", "valid"},
		spoken{"schema <", "no"},
		spoken{"check <a>1</a>", "valid"},
		spoken{"check <c/>", "invalid 0:c"},
		spoken{"schema <schema x='1'/>", "no"},
		spoken{"check <a>x</a>", "invalid 0:a"},
		spoken{"schema <schema><simple name='a' kind='text'/><element name='a' type='b'/></schema>", "no"},
		spoken{"fill <c><a>1</a></c>", `<c x="5"><a>1</a></c>`},
		spoken{"schema", "no"},
		spoken{"schema ", "no"},
		spoken{"Schema " + otherSchema, "what"},
		spoken{" schema " + otherSchema, "what"},
		spoken{"schema\t" + otherSchema, "what"},
		spoken{"fill <c><a>1</a></c>", `<c x="5"><a>1</a></c>`},
		spoken{"schema " + otherSchema, "ok"},
		spoken{"fill <c><a>1</a></c>", "invalid"},
		spoken{"fill <a/>", "<a>two</a>"},
		spoken{"schema " + smallSchema, "ok"},
		spoken{"check <a/>", "invalid 0:a"},
		spoken{"schema <schema/>", "ok"},
		spoken{"check <a/>", "invalid 0:a"},
		spoken{"check <b><a/>x<a/></b>", "invalid 0:b 1:a 3:a"},
	)
}

func TestCheckLines(t *testing.T) {
	for _, c := range []struct{ doc, said string }{
		{"<a>1</a>", "valid"},
		{" <a>1</a> ", "valid"},
		{"\t<a\t>\r1</a>\r", "valid"},
		{"<!-- r --><a>1</a>", "valid"},
		{"<a xsi:nil='true'/>", "valid"},
		{"<f/>", "valid"},
		{"<b/>", "valid"},
		{"<a/>", "invalid 0:a"},
		{"<a>x</a>", "invalid 0:a"},
		{"<q/>", "invalid 0:q"},
		{"<p:a>1</p:a>", "invalid 0:p:a"},
		{"<f><p:q/><_z.9-/></f>", "invalid 1:p:q 2:_z.9-"},
		{"<c><a>1</a></c>", "invalid 0:c"},
		{"<c x='q'><a>1</a></c>", "invalid 0:c"},
		{"<c x='1'>t<a>1</a></c>", "invalid 0:c"},
		{"<c x='1'> <a>1</a>t</c>", "invalid 0:c"},
		{"<d>x</d>", "invalid 0:d"},
		{"<f>t<d>x</d>t<d> </d></f>", "invalid 2:d"},
		{"<f>t<a>x</a>t<a>1</a><a/>t<q>t</q></f>", "invalid 2:a 7:a 9:q"},
		{"<c><b/><a>x</a></c>", "invalid 0:c 2:a"},
		{"<f><f><f><a/></f></f><q/></f>", "invalid 3:a 4:q"},
		{"<f>" + strings.Repeat("<b/>", 10) + "<q/></f>", "invalid 11:q"},
		{"<f>" + strings.Repeat("<b/>", 198) + "<q/></f>", "invalid 199:q"},
		{"<f>" + strings.Repeat("<b/>", 199) + "</f>", "valid"},
		{"<f>" + strings.Repeat("<b/>", 200) + "</f>", "no document"},
	} {
		saysAll(t, spoken{"check " + c.doc, map[bool]string{true: "no document", false: "no schema"}[c.said == "no document"]}, spoken{"schema " + houseText, "ok"}, spoken{"check " + c.doc, c.said})
	}
	// All of them are told, by their places.
	want := "invalid"
	for n := range 150 {
		want += " " + strconv.Itoa(n) + ":q"
	}
	saysAll(t, spoken{"schema <schema/>", "ok"}, spoken{"check <q>" + strings.Repeat("<q/>", 149) + "</q>", want})
}

// What is no document is so with a schema and without one, of both words that ask for one.
func TestLinesWithNoDocument(t *testing.T) {
	for _, rest := range []string{"", " ", "x", "<", "<a", "<a>", "</a>", "<a></b>", "<a/><a/>", "<a/>x", "x<a/>", "<a b/>", "<a b=1/>", "<a b='1' b='2'/>", "< a/>", "<1/>", "<a:b:c/>", "<a>&</a>", "<a>&nbsp;</a>", "<a>]]></a>", "<a>\x00</a>", "<a>\xff</a>", "<a/>\x00", "\ufeff<a/>", "<!-- -- --><a/>", "<?a?><a/>", "<![CDATA[x]]>", strings.Repeat("<a>", 21) + strings.Repeat("</a>", 21), "<a><", "schema", "<a\v/>", "<a/>\v", "<a/>\u00a0"} {
		for _, word := range []string{"check ", "fill "} {
			saysAll(t, spoken{word + rest, "no document"}, spoken{"schema <schema/>", "ok"}, spoken{word + rest, "no document"}, spoken{"schema <schema/>", "ok"})
		}
	}
	for bytes, want := range map[int]string{2499: "no schema", 2500: "no document"} {
		saysOne(t, "check <a>"+strings.Repeat("x", bytes)+"</a>", want)
		saysOne(t, "fill <a>"+strings.Repeat("x", bytes)+"</a>", want)
	}
}

func TestFillLines(t *testing.T) {
	for _, c := range []struct{ doc, said string }{
		{"<a>1</a>", "<a>1</a>"},
		{" <a > 1 </a > ", "<a> 1 </a>"},
		{"<b/>", "<b>two</b>"},
		{"<b></b>", "<b>two</b>"},
		{"<b><!-- r --></b>", "<b>two</b>"},
		{"<b>x</b>", "<b>x</b>"},
		{"<i/>", "<i> 07 </i>"},
		{"<i xsi:nil='1'/>", `<i xsi:nil="1"/>`},
		{"<c x='1'> <a> 07 </a><b/></c>", `<c x="1" y="one" z="1"> <a> 07 </a><b>two</b></c>`},
		{"<c z='2' x='1'><a>1</a></c>", `<c z="2" x="1" y="one"><a>1</a></c>`},
		{"<c y='' x='1'><a>1</a></c>", `<c y="" x="1" z="1"><a>1</a></c>`},
		{"<g/>", `<g xsi="1"/>`},
		{"<f><g><b/></g><b/>x<b/></f>", `<f><g xsi="1"><b>two</b></g><b>two</b>x<b>two</b></f>`},
		{"<h>&amp;&lt;&gt;\"'&#9;</h>", "<h>&amp;&lt;&gt;\"'\t</h>"},
		{"<c x='1' y='&quot;&#9;&#10;&#13;'><a>1</a></c>", `<c x="1" y="&quot;&#9;&#10;&#13;" z="1"><a>1</a></c>`},
		// A text's line feeds stand as they are: such a line says more than one.
		{"<h>&#10;</h>", "<h>\n</h>"},
		{"<h>one&#10;two&#10;&#10;</h>", "<h>one\ntwo\n\n</h>"},
		{"<h>one\rtwo</h>", "<h>one\ntwo</h>"},
		{"<h>&#13;&#10;</h>", "<h>&#13;\n</h>"},
		{"<h>\r\r</h>\r", "<h>\n\n</h>"},
		{"<n/>", "<n>\tx\n</n>"},
		{"<f><n/>&#10;<n/></f>", "<f><n>\tx\n</n>\n<n>\tx\n</n></f>"},
		{"<h>check&#10;ok&#10;</h>", "<h>check\nok\n</h>"},
		// A document that is not valid is told without its items.
		{"<a/>", "invalid"},
		{"<a>x</a>", "invalid"},
		{"<q/>", "invalid"},
		{"<c><a>1</a></c>", "invalid"},
		{"<f><b/><a>x</a><q/></f>", "invalid"},
		{"<d>x</d>", "invalid"},
	} {
		saysAll(t, spoken{"fill " + c.doc, "no schema"}, spoken{"schema " + houseText, "ok"}, spoken{"fill " + c.doc, c.said}, spoken{"fly", "what"}, spoken{"fill " + c.doc, c.said})
	}
}

// A valid document that would not be right when it is filled.
func TestFillLinesThatHaveNoRoom(t *testing.T) {
	for what, c := range map[string]struct {
		schema impl.Schema
		doc    string
		fits   bool
	}{
		"as many items as may be":      {given(0, "x"), "<r>" + strings.Repeat("<r/>", 198) + "</r>", true},
		"a text behind them":           {given(0, "x"), "<r>" + strings.Repeat("<r/>", 197) + "<b/></r>", true},
		"an item too many":             {given(0, "x"), "<r>" + strings.Repeat("<r/>", 198) + "<b/></r>", false},
		"items by texts":               {given(0, "x"), "<r>" + strings.Repeat("<b/>", 99) + "</r>", true},
		"texts too many":               {given(0, "x"), "<r>" + strings.Repeat("<b/>", 100) + "</r>", false},
		"as many attributes as may be": {given(10, "x"), "<r/>", true},
		"an attribute too many":        {given(10, "x"), "<r xmlns='u'/>", false},
		"as deep as may be":            {given(0, "x"), strings.Repeat("<s>", 18) + "<b/>" + strings.Repeat("</s>", 18), true},
		"too deep":                     {given(0, "x"), strings.Repeat("<s>", 19) + "<b/>" + strings.Repeat("</s>", 19), false},
		"as many bytes as may be":      {given(0, strings.Repeat("x", 1000)), "<r>" + strings.Repeat("y", 497) + "<b/><b/></r>", true},
		"a byte too many":              {given(0, strings.Repeat("x", 1000)), "<r>" + strings.Repeat("y", 498) + "<b/><b/></r>", false},
	} {
		filled := "invalid"
		if c.fits {
			filled, _ = impl.PrintDoc(filledBy(c.schema, parsed(t, c.doc)))
		}
		t.Run(what, func(t *testing.T) {
			saysAll(t, spoken{"schema " + schemaText(c.schema), "ok"}, spoken{"check " + c.doc, "valid"}, spoken{"fill " + c.doc, filled}, spoken{"check " + c.doc, "valid"})
		})
	}
}

func TestMatchLines(t *testing.T) {
	for _, c := range []struct{ rest, said string }{
		{"a+ aa", "yes"},
		{"a+ ab", "not"},
		{"a+ ", "not"},
		{"a+", "not"},
		{"a* ", "yes"},
		{"a*", "yes"},
		{"a{0} ", "yes"},
		{"a{0}", "yes"},
		{"a{0} a", "not"},
		{"", "yes"},
		{" ", "yes"},
		{" a", "not"},
		{"  ", "not"},
		{"| ", "yes"},
		{"() ", "yes"},
		{"a|b b", "yes"},
		{"( x", "no expression"},
		{"( ", "no expression"},
		{"(", "no expression"},
		{"a{1", "no expression"},
		{"a{1, 2} a", "no expression"},
		{"[a b] a", "no expression"},
		{"a** a", "no expression"},
		{"a{21} a", "no expression"},
		{"\\x x", "no expression"},
		{"] ]", "no expression"},
		// The text is all that stands behind that blank.
		{"a  a", "not"},
		{"\\sa  a", "yes"},
		{"\\s  ", "yes"},
		{"\\s*    ", "yes"},
		{"\\s ", "not"},
		{"a\\sb a b", "yes"},
		{"a\\sb a  b", "not"},
		{"a a ", "not"},
		{"a\\s a ", "yes"},
		{".* a b  c ", "yes"},
		{"a.b.c a b c", "yes"},
		{"[a-z\\s]+  match a+ aa ", "no expression"},
		{"[a-z\\t]+ match\taa", "yes"},
		// Other blanks end no expression, and are characters of a text.
		{"a\tb a\tb", "yes"},
		{"a\ta", "not"},
		{"\t \t", "yes"},
		{"a\r a\r", "yes"},
		{"a a\r", "not"},
		{"a\\r a\r", "yes"},
		{". \r", "not"},
		{". \t", "yes"},
		{"\\s \r", "yes"},
		{"\u00a0 \u00a0", "yes"},
		{"a\u00a0a", "not"},
		// Characters, and bytes that are none.
		{". é", "yes"},
		{".. é", "not"},
		{"[α-ω]+ λόγος", "not"},
		{"[α-ωό]+ λόγος", "yes"},
		{"😀 😀", "yes"},
		{". \x00", "yes"},
		{"\x00 \x00", "yes"},
		{". \xff", "not"},
		{".* a\xffb", "not"},
		{"\xff a", "no expression"},
		{"\xff \xff", "no expression"},
		{"\xc3 \xa9", "no expression"},
		{". \xed\xa0\x80", "not"},
		{". \ufffd", "yes"},
		{". \ufffe", "yes"},
		// The limits of chapter 6.
		{"a* " + strings.Repeat("a", 300), "yes"},
		{"a* " + strings.Repeat("a", 301), "not"},
		{".* " + strings.Repeat("é", 300), "yes"},
		{strings.Repeat("(", 100) + "a" + strings.Repeat(")", 100) + " a", "yes"},
		{strings.Repeat("(", 199) + "a" + strings.Repeat(")", 199) + "? ", "yes"},
		{strings.Repeat("(", 200) + "a" + strings.Repeat(")", 200) + " a", "no expression"},
		{strings.Repeat("a", 60) + " " + strings.Repeat("a", 60), "yes"},
		{strings.Repeat("a", 61) + " " + strings.Repeat("a", 61), "no expression"},
	} {
		saysOne(t, "match "+c.rest, c.said)
		saysAll(t, spoken{"schema " + otherSchema, "ok"}, spoken{"match " + c.rest, c.said}, spoken{"fill <a/>", "<a>two</a>"}, spoken{"match " + c.rest, c.said})
	}
}

func TestWithinLines(t *testing.T) {
	ringText := func(n int) string { return "(" + strings.TrimSuffix(strings.Repeat("a,", n), ",") + ")" }
	for _, c := range []struct{ rest, said string }{
		{"(a) (a)", "yes"},
		{"(a) (a|b)", "yes"},
		{"() ()", "yes"},
		{"(a) (#)", "yes"},
		{"(a*,b*) (a|b)*", "yes"},
		{"(a) (b)", "not a"},
		{"(a|b)* (a*,b*)", "not b a"},
		{"(a*) (a?,a?,a?)", "not a a a a"},
		{"(a,(b|c|d)) ((a,b)|(a,d))", "not a c"},
		{"(#) (a)", "not other"},
		{"(#,#) (other,#)", "not other_ other"},
		{"(_.-9,B-) ()", "not _.-9 B-"},
		// A row of no names stands behind its blank as well.
		{"() (a)", "not "},
		{"(a?) (a)", "not "},
		{"(a*) (a+)", "not "},
		{"(a) b", "no model"},
		{"a (b)", "no model"},
		{"(a)", "no model"},
		{"(a) ", "no model"},
		{" (a)", "no model"},
		{" ", "no model"},
		{"", "no model"},
		{"  ", "no model"},
		{"(a)  (a)", "no model"},
		{" (a) (a)", "no model"},
		{"(a) (a) ", "no model"},
		{"(a) (a) (a)", "no model"},
		{"(a, b) (a)", "no model"},
		{"(a) (a, b)", "no model"},
		{"(a)\t(a)", "no model"},
		{"(a)\t (a)", "no model"},
		{"(a) \t(a)", "no model"},
		{"(a) (a)\t", "no model"},
		{"(a) (a)\r", "no model"},
		{"(a)\r (a)", "no model"},
		{"( (a)", "no model"},
		{"(a) (", "no model"},
		{"(a)x (a)", "no model"},
		{"(a|b,c) (a)", "no model"},
		{"(é) (a)", "no model"},
		{"(\x00) (a)", "no model"},
		{"(a) (\xff)", "no model"},
		{"(a) (" + strings.Repeat("a", 40) + ")", "not a"},
		{"(a) (" + strings.Repeat("a", 41) + ")", "no model"},
		{"(a) (" + strings.Repeat("a,", 38) + "a)", "not a"},
		{"(a) (" + strings.Repeat("a,", 39) + "a)", "no model"},
		{"(a) " + strings.Repeat("(", 9) + "a" + strings.Repeat(")", 9), "yes"},
		{"(a) " + strings.Repeat("(", 10) + "a" + strings.Repeat(")", 10), "no model"},
		{strings.Repeat("(", 1000) + " (a)", "no model"},
		// The limit of chapter 9, met and passed.
		{ringText(19) + "* (" + ringText(21) + "*|a*)", "yes"},
		{ringText(16) + "* (" + ringText(25) + "*|a*)", "many"},
		{ringText(37) + "* (" + ringText(36) + "*|a*)", "many"},
		{ringText(25) + "+ (" + ringText(16) + "*,a" + strings.Repeat(",a?", 14) + ")", "not" + strings.Repeat(" a", 400)},
	} {
		saysOne(t, "within "+c.rest, c.said)
		saysAll(t, spoken{"schema " + otherSchema, "ok"}, spoken{"within " + c.rest, c.said}, spoken{"fill <a/>", "<a>two</a>"}, spoken{"within " + c.rest, c.said})
	}
}
