package tests

import (
	"math/rand"
	"strings"
	"sync"
	"testing"

	"loop.example/g00262/impl"
)

// A scripter makes lines for the schema that it told last.
type scripter struct {
	maker
	schema impl.Schema
}

// oneLine takes the line feeds out of what is to be one line.
func (r *scripter) oneLine(s string) string {
	return strings.ReplaceAll(s, "\n", r.pick("\r", " ", "\t"))
}

func (r *scripter) schemaLine() string {
	if r.Intn(4) == 0 {
		return "schema " + r.pick("", "<", "<a/>", "<schema x='1'/>", "<schema> </schema>", " <schema><simple name='t' kind='text'/><simple name='t' kind='text'/></schema>")
	}
	r.schema = r.rightOne()
	return "schema " + r.pick("", " ", "\t") + r.oneLine(schemaText(r.schema))
}

// ask makes a line that changes nothing.
func (r *scripter) ask() string {
	switch r.Intn(8) {
	case 0, 1, 2:
		word := r.pick("check ", "fill ")
		if r.schema.Decls == nil || r.Intn(8) == 0 {
			return word + r.pick("<a/>", "<b>1</b>", "<", "", " <a></a> ", "<q>&#10;</q>", "<a><b/><c>x</c></a>")
		}
		return word + r.oneLine(r.spell(r.docFor(r.schema), 0))
	case 3, 4:
		list := r.rx(r.smallClass)
		return "match " + r.oneLine(r.writeRx(list, int64(len(list)-1))) + r.pick(" ", " ", " ", "  ", "") + r.pick(r.sample(list, int64(len(list)-1)), r.smallText())
	case 5:
		p, q := r.model(1+r.Intn(2), "a", "b"), r.model(1+r.Intn(2), "a", "b")
		return "within " + impl.ModelText(p) + r.pick(" ", " ", " ", " ", " ", "  ", "") + impl.ModelText(q)
	case 6:
		return r.pick("", " ", "\t", "\r", " \t\r ")
	}
	return r.pick("fly", "check\t<a/>", " check <a/>", "Schema <schema/>", "schem <schema/>", "schemas <schema/>", "\x00", "schema\r")
}

func (r *scripter) line() string {
	if r.Intn(6) == 0 {
		return r.schemaLine()
	}
	return r.ask()
}

// lines makes those of a script that is not too long.
func (r *scripter) lines(most int) []string {
	var lines []string
	bytes := 0
	for range 1 + r.Intn(most) {
		line := r.line() + "\n"
		if bytes += len(line); bytes > impl.MaxLines {
			break
		}
		lines = append(lines, line)
	}
	return lines
}

func TestRandomScripts(t *testing.T) {
	r := scripter{maker: maker{rand.New(rand.NewSource(131))}}
	kinds := map[string]int{}
	for range 1500 {
		r.schema = impl.Schema{}
		script := strings.Join(r.lines(12), "")
		runs(t, script)
		told, _ := toldBy(script)
		for _, one := range told {
			kind := strings.TrimSuffix(one, "\n")
			switch {
			case strings.HasPrefix(kind, "<"):
				kind = "filled"
				if strings.Count(one, "\n") > 1 {
					kind = "filled, with line feeds"
				}
			case strings.HasPrefix(kind, "invalid "):
				kind = "invalid items"
			case strings.HasPrefix(kind, "not ") && kind != "not ":
				kind = "not names"
			}
			kinds[kind]++
		}
	}
	for _, kind := range []string{"", "ok", "no", "valid", "invalid", "invalid items", "filled", "filled, with line feeds", "no document", "no schema", "yes", "not", "not ", "not names", "no expression", "no model", "what"} {
		if kinds[kind] < 10 {
			t.Errorf("%q was said %d times", kind, kinds[kind])
		}
	}
}

// Bytes are put in, taken out or changed, wherever they stand.
func TestScriptsThatWereChanged(t *testing.T) {
	r := scripter{maker: maker{rand.New(rand.NewSource(132))}}
	long := 0
	for range 6000 {
		r.schema = impl.Schema{}
		script := strings.Join(r.lines(6), "")
		for range 1 + r.Intn(3) {
			at := r.Intn(len(script))
			put := r.pick("", " ", "  ", "\t", "\r", "\n", "\n\n", "\x00", "\xff", "é", "<", ">", "(", ")", "a", "check ", "fill ", "match ", "\nschema ", "within ")
			script = script[:at] + put + script[at+r.Intn(2):] + r.pick("", "", "", "", "\n", "x", " ")
			if script == "" {
				break
			}
		}
		if runs(t, script) == tooLong {
			long++
		}
	}
	if long < 300 || long > 5000 {
		t.Errorf("%d were too long", long)
	}
}

// Promise 13: what the lines ahead said is the beginning of what all say, whatever stands behind them.
func TestWhatWasSaidStaysSaid(t *testing.T) {
	r := scripter{maker: maker{rand.New(rand.NewSource(133))}}
	for range 400 {
		r.schema = impl.Schema{}
		script, said := "", ""
		for _, line := range r.lines(20) {
			next := impl.RunScript(script + line)
			if !strings.HasPrefix(next, said) {
				t.Fatalf("%q said %q, and with %q behind it %q", script, said, line, next)
			}
			// A line that says something ends what it says; one of blanks alone adds nothing.
			added := strings.TrimPrefix(next, said)
			if blank := strings.Trim(line, " \t\r\n") == ""; blank != (added == "") || !blank && !strings.HasSuffix(added, "\n") {
				t.Fatalf("%q says %q", line, added)
			}
			script, said = script+line, next
		}
		// Not any more, when there are too many lines, or too many bytes, or one is not ended.
		room := impl.MaxScript - strings.Count(script, "\n")
		if more := impl.RunScript(script + strings.Repeat("\n", room)); len(script)+room <= impl.MaxLines && more != said {
			t.Fatalf("%q said %q, and with lines that say nothing %q", script, said, more)
		}
		for _, more := range []string{strings.Repeat("\n", room+1), strings.Repeat("fly\n", room+1), strings.Repeat(" ", impl.MaxLines-len(script)) + "\n", "f", " "} {
			if all := impl.RunScript(script + more); all != tooLong {
				t.Fatalf("%q with %.60q behind it: %q", script, more, all)
			}
		}
	}
}

// answersOf has what each line says where it stands, by what the lines say with it and without it.
func answersOf(lines []string) []string {
	var answers []string
	script, said := "", ""
	for _, line := range lines {
		script += line
		next := impl.RunScript(script)
		answers = append(answers, strings.TrimPrefix(next, said))
		said = next
	}
	return answers
}

// Promise 13: lines that ask, and schemas that are refused, change nothing of what the others say.
func TestLinesThatAskChangeNothing(t *testing.T) {
	r := scripter{maker: maker{rand.New(rand.NewSource(134))}}
	tried, asked := 0, 0
	for range 500 {
		r.schema = impl.Schema{}
		lines := r.lines(8)
		answers := answersOf(lines)
		script, want := "", ""
		for i, line := range lines {
			for range r.Intn(4) {
				ask := r.pick(r.ask(), r.ask(), "schema <", "schema <a/>", "schema") + "\n"
				// What it says hangs on the lines that stand ahead, without those that were put in.
				ahead := strings.Join(lines[:i], "")
				want += strings.TrimPrefix(impl.RunScript(ahead+ask), strings.Join(answers[:i], ""))
				script += ask
				asked++
			}
			script += line
			want += answers[i]
		}
		if len(script) > impl.MaxLines || strings.Count(script, "\n") > impl.MaxScript {
			continue
		}
		tried++
		if said := impl.RunScript(script); said != want {
			t.Fatalf("%q says %q, not %q", script, said, want)
		}
	}
	if tried < 200 || asked < 1000 {
		t.Errorf("%d scripts, %d lines that ask", tried, asked)
	}
}

// Without the lines that ask, those that tell a schema say the same; and an ask hangs on the last schema that was taken, on no other.
func TestOnlyTheLastSchemaCounts(t *testing.T) {
	r := scripter{maker: maker{rand.New(rand.NewSource(135))}}
	for range 400 {
		r.schema = impl.Schema{}
		lines := r.lines(10)
		answers := answersOf(lines)
		last, told, want := "", "", ""
		for i, line := range lines {
			if !strings.HasPrefix(line, "schema ") {
				alone := impl.RunScript(last + line)
				if last != "" {
					alone = strings.TrimPrefix(alone, "ok\n")
				}
				if alone != answers[i] {
					t.Fatalf("%q says %q behind %q, and %q behind %q", line, answers[i], lines[:i], alone, last)
				}
				continue
			}
			told += line
			want += answers[i]
			if answers[i] == "ok\n" {
				last = line
			}
		}
		if said := impl.RunScript(told); said != want {
			t.Fatalf("%q says %q, not %q", told, said, want)
		}
	}
}

// Promise 14: nothing is kept from one call to another, whatever was run in between or is run at the same time.
func TestTheSameScriptSaysTheSame(t *testing.T) {
	r := scripter{maker: maker{rand.New(rand.NewSource(136))}}
	var scripts, said []string
	for range 60 {
		r.schema = impl.Schema{}
		script := strings.Join(r.lines(10), "")
		scripts = append(scripts, script)
		said = append(said, impl.RunScript(script))
	}
	for _, other := range []string{"", "schema " + houseText + "\n", "schema <\n", "f", strings.Repeat("\n", 41)} {
		for i, script := range scripts {
			impl.RunScript(other)
			kept := strings.Clone(script)
			if again := impl.RunScript(script); again != said[i] || script != kept {
				t.Fatalf("%q says %q, and behind %.60q %q", script, said[i], other, again)
			}
		}
	}
	saysOne(t, "schema "+houseText, "ok")
	saysOne(t, "check <a>1</a>", "no schema")
	saysOne(t, "fill <b/>", "no schema")
	var workers sync.WaitGroup
	for range 8 {
		workers.Go(func() {
			for i, script := range scripts {
				if again := impl.RunScript(script); again != said[i] {
					t.Errorf("%q says %q, and beside others %q", script, said[i], again)
				}
			}
		})
	}
	workers.Wait()
}

// Each byte as a line, at each end of a word, and in a rest.
func TestEachByteInALine(t *testing.T) {
	for b := range 256 {
		one := string([]byte{byte(b)})
		for _, line := range []string{one, one + one, " " + one, one + " ", one + "check <a/>", "check" + one + "<a/>", "check" + one, "check " + one + "<a/>", "check <a/>" + one, "check <a>" + one + "</a>", "fill <a b='" + one + "'/>", "schema " + one, "schema <schema/>" + one, "match " + one + " " + one, "match" + one + "a a", "match a" + one + "a", "match ." + one, "match . " + one, "match [^" + one + "] a", "within" + one + "(a) (a)", "within (a)" + one + "(a)", "within (a) (a)" + one, "within " + one + " (a)"} {
			runs(t, line+"\n")
			runs(t, "schema "+otherSchema+"\n"+line+"\nfill <a/>\n"+line+"\n")
			runs(t, line)
		}
	}
}

func TestWrongScripts(t *testing.T) {
	for _, c := range []struct{ script, said string }{
		{"\xff\n", "what\n"},
		{"\x00\n", "what\n"},
		{"\x00\x00 \x00\n\x00\n", "what\nwhat\n"},
		{"check \x00\n", "no document\n"},
		{"fill \xff<a/>\n", "no document\n"},
		{"schema \xff\n", "no\n"},
		{"schema <schema/>\x00\n", "no\n"},
		{"match \xff \xff\n", "no expression\n"},
		{"match \x00 \x00\n", "yes\n"},
		{"within \x00 \x00\n", "no model\n"},
		{"\xed\xa0\x80\n\xf4\x90\x80\x80\n\xc0\x80\n", "what\nwhat\nwhat\n"},
		{"check <a/>\r\nfly\r\n\r\n", "no schema\nwhat\n"},
		{"check\r\nfill\r\nschema\r\n", "what\nwhat\nwhat\n"},
		{"schema <schema/>\r\ncheck <a/>\r\n", "ok\ninvalid 0:a\n"},
		{"match a a\r\n", "not\n"},
		{"within (a) (a)\r\n", "no model\n"},
		{"check <a/>\rcheck <a/>\n", "no document\n"},
		{"check <a/>\r", tooLong},
		{"check <a/>\u2028check <a/>\n", "no document\n"},
		{"check <a/>\\n\n", "no document\n"},
		{strings.Repeat("x", 3999) + "\n", "what\n"},
		{"check " + strings.Repeat("<a>", 1331) + "\n", "no document\n"},
		{"schema " + strings.Repeat("<", 3992) + "\n", "no\n"},
		{"match " + strings.Repeat("(", 3993) + "\n", "no expression\n"},
		{"within " + strings.Repeat("(", 3992) + "\n", "no model\n"},
		{"within (a) " + strings.Repeat("(", 3988) + "\n", "no model\n"},
		{"match a* " + strings.Repeat("\xff", 3990) + "\n", "not\n"},
		{strings.Repeat("\x00", 3999) + "\n", "what\n"},
		{strings.Repeat("\n", 5000), tooLong},
		{strings.Repeat("x", 5000) + "\n", tooLong},
		{strings.Repeat("x", 20000000), tooLong},
		{strings.Repeat("x", 20000000) + "\n", tooLong},
		{strings.Repeat("check <a/>\n", 2000000), tooLong},
		{strings.Repeat(" ", 20000000) + "\n", tooLong},
		{strings.Repeat("\n", 20000000), tooLong},
		{"schema " + strings.Repeat("<a>", 5000000) + "\n", tooLong},
	} {
		if said := runs(t, c.script); said != c.said {
			t.Errorf("%.100q (%d bytes) says %.100q", c.script, len(c.script), said)
		}
	}
}

func TestRandomBytesAsScripts(t *testing.T) {
	m := maker{rand.New(rand.NewSource(137))}
	for range 4000 {
		bytes := make([]byte, m.Intn(400))
		m.Read(bytes)
		runs(t, string(bytes)+m.pick("", "\n"))
		script := m.some(30, func() string {
			return m.pick("schema", "check", "fill", "match", "within", " ", " ", " ", "\n", "\n", "\t", "\r", "<a/>", "<schema/>", "<a>", "</a>", "(a)", "(b*)", "a", "a+", "\x00", "\xff")
		})
		runs(t, script)
		runs(t, script+"\n")
	}
}
