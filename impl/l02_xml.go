package impl

import "strings"

const (
	MaxItems = 200
	MaxDeep  = 20
	MaxAttrs = 10
)

type Attr struct {
	Name  string
	Value string
}

type Item struct {
	Up    int64
	Name  string
	Text  string
	Attrs []Attr
}

func DocOk(list []Item) bool {
	if len(list) < 1 || len(list) > MaxItems {
		return false
	}
	total := 0
	for i, item := range list {
		if !placeOk(list, i) || !partsOk(item) {
			return false
		}
		total += sizeOf(item)
	}
	return total <= MaxText/8
}

// placeOk leans on the places ahead of i: they must have been found right.
func placeOk(list []Item, i int) bool {
	item := list[i]
	if i == 0 {
		return item.Up == -1 && item.Name != ""
	}
	last := list[i-1]
	if last.Name == "" && item.Name == "" && last.Up == item.Up {
		return false
	}
	above := int64(i - 1)
	if last.Name == "" {
		above = last.Up // nothing stands below a text
	}
	for above != -1 && above != item.Up {
		above = list[above].Up
	}
	return above != -1 && countAbove(list, item) < MaxDeep
}

func countAbove(list []Item, item Item) int {
	n := 0
	for up := item.Up; up != -1; up = list[up].Up {
		n++
	}
	return n
}

func partsOk(item Item) bool {
	if item.Name == "" {
		return item.Text != "" && len(item.Attrs) == 0 && plain(item.Text)
	}
	return item.Text == "" && qualified(item.Name) && attrsOk(item.Attrs)
}

func qualified(s string) bool {
	_, _, ok := Split(s)
	return ok
}

func attrsOk(attrs []Attr) bool {
	if len(attrs) > MaxAttrs {
		return false
	}
	for i, attr := range attrs {
		if !qualified(attr.Name) || hasAttr(attrs[:i], attr.Name) || !plain(attr.Value) {
			return false
		}
	}
	return true
}

func hasAttr(attrs []Attr, name string) bool {
	_, found := attrValue(attrs, name)
	return found
}

func attrValue(attrs []Attr, name string) (string, bool) {
	for _, attr := range attrs {
		if attr.Name == name {
			return attr.Value, true
		}
	}
	return "", false
}

func sizeOf(item Item) int {
	total := len(item.Name) + len(item.Text)
	for _, attr := range item.Attrs {
		total += len(attr.Name) + len(attr.Value)
	}
	return total
}

func Escape(s string, attr bool) (string, bool) {
	if len(s) > MaxText/8 || !plain(s) {
		return "", false
	}
	var out strings.Builder
	for i := 0; i < len(s); i++ {
		if mark := escapeOf(s[i], attr); mark != "" {
			out.WriteString(mark)
		} else {
			out.WriteByte(s[i])
		}
	}
	return out.String(), true
}

func escapeOf(b byte, attr bool) string {
	switch {
	case b == '&':
		return "&amp;"
	case b == '<':
		return "&lt;"
	case b == '>':
		return "&gt;"
	case b == '\r':
		return "&#13;"
	case attr && b == '"':
		return "&quot;"
	case attr && b == '\t':
		return "&#9;"
	case attr && b == '\n':
		return "&#10;"
	}
	return ""
}

func Unescape(s string) (string, bool) {
	if !plain(s) || strings.Contains(s, "<") {
		return "", false
	}
	var out strings.Builder
	for s != "" {
		head, rest, found := strings.Cut(s, "&")
		out.WriteString(head)
		if !found {
			break
		}
		mark, behind, ended := strings.Cut(rest, ";")
		char, known := charOf(mark)
		if !ended || !known {
			return "", false
		}
		out.WriteString(char)
		s = behind
	}
	return out.String(), true
}

// charOf answers what & and ; around mark stand for.
func charOf(mark string) (string, bool) {
	switch mark {
	case "amp":
		return "&", true
	case "lt":
		return "<", true
	case "gt":
		return ">", true
	case "quot":
		return "\"", true
	case "apos":
		return "'", true
	}
	digits, found := strings.CutPrefix(mark, "#")
	if !found || len(mark) > 8 {
		return "", false
	}
	return charOfDigits(digits)
}

// charOfDigits is given so few digits that the number can't grow too great; no digits make 0, which is not CharOk.
func charOfDigits(digits string) (string, bool) {
	n := int64(0)
	for i := 0; i < len(digits); i++ {
		if digits[i] < '0' || digits[i] > '9' {
			return "", false
		}
		n = n*10 + int64(digits[i]-'0')
	}
	if !CharOk(n) {
		return "", false
	}
	return string(rune(n)), true
}

func PrintDoc(list []Item) (string, bool) {
	if !DocOk(list) {
		return "", false
	}
	var out strings.Builder
	open := int64(-1)
	for i, item := range list {
		out.WriteString(endTags(list, open, item.Up))
		open = item.Up
		if item.Name == "" {
			out.WriteString(escaped(item.Text, false))
			continue
		}
		out.WriteString(beginTag(item))
		if i+1 < len(list) && list[i+1].Up == int64(i) {
			out.WriteString(">")
			open = int64(i)
		} else {
			out.WriteString("/>")
		}
	}
	out.WriteString(endTags(list, open, -1))
	return out.String(), true
}

// endTags closes the elements from one up to, and without, one above it.
func endTags(list []Item, from int64, to int64) string {
	out := ""
	for from != to {
		out += "</" + list[from].Name + ">"
		from = list[from].Up
	}
	return out
}

// beginTag leaves the end open: it hangs on what is below the element.
func beginTag(item Item) string {
	out := "<" + item.Name
	for _, attr := range item.Attrs {
		out += " " + attr.Name + "=\"" + escaped(attr.Value, true) + "\""
	}
	return out
}

// escaped is for the texts of a right document, of which none is refused.
func escaped(s string, attr bool) string {
	out, _ := Escape(s, attr)
	return out
}

func ParseDoc(s string) ([]Item, bool) {
	if !plain(s) {
		return nil, false
	}
	list, ok := readDoc(Lines(s))
	if !ok || !DocOk(list) {
		return nil, false
	}
	return list, true
}

// textReader gives up with a panic where the text goes wrong: so no step has to ask whether the one ahead of it went well.
type textReader struct {
	rest string
}

func (r *textReader) want(ok bool) {
	if !ok {
		panic("not as it must be written")
	}
}

func (r *textReader) takes(mark string) bool {
	rest, found := strings.CutPrefix(r.rest, mark)
	r.rest = rest
	return found
}

func (r *textReader) must(mark string) {
	r.want(r.takes(mark))
}

// runOf answers the bytes up to the first one that does not belong.
func (r *textReader) runOf(belongs func(b byte) bool) string {
	n := 0
	for n < len(r.rest) && belongs(r.rest[n]) {
		n++
	}
	run := r.rest[:n]
	r.rest = r.rest[n:]
	return run
}

type docReader struct {
	textReader
	list []Item
	open int64  // the place of the innermost element that has not ended, or -1
	text string // what was read of a text that a remark may still go on with
}

func readDoc(s string) (list []Item, ok bool) {
	defer func() {
		if recover() != nil {
			list, ok = nil, false
		}
	}()
	r := docReader{textReader: textReader{s}, open: -1}
	r.readAround()
	r.must("<")
	r.readElement()
	for r.open != -1 {
		r.readBelow()
	}
	r.readAround()
	r.want(r.rest == "")
	return r.list, true
}

// upTo answers what stands ahead of the mark, and goes behind it.
func (r *docReader) upTo(mark string) string {
	head, rest, found := strings.Cut(r.rest, mark)
	r.want(found)
	r.rest = rest
	return head
}

func (r *docReader) takesBlanks() bool {
	rest := strings.TrimLeft(r.rest, " \t\n")
	found := len(rest) < len(r.rest)
	r.rest = rest
	return found
}

func (r *docReader) readAround() {
	r.takesBlanks()
	for r.takes("<!--") {
		r.readRemark()
		r.takesBlanks()
	}
}

func (r *docReader) readRemark() {
	r.want(!strings.Contains(r.upTo("-->"), "--"))
}

func (r *docReader) readBelow() {
	switch {
	case r.takes("<!--"):
		r.readRemark()
	case r.takes("</"):
		r.readEnd()
	case r.takes("<"):
		r.readElement()
	default:
		r.readText()
	}
}

func (r *docReader) readElement() {
	r.endText()
	item := Item{Up: r.open, Name: r.readName()}
	for r.takesBlanks() && !r.atTagEnd() {
		item.Attrs = append(item.Attrs, r.readAttr())
	}
	r.list = append(r.list, item)
	if r.takes("/>") {
		return
	}
	r.must(">")
	r.open = int64(len(r.list) - 1)
}

func (r *docReader) atTagEnd() bool {
	return strings.HasPrefix(r.rest, "/") || strings.HasPrefix(r.rest, ">")
}

func (r *docReader) readName() string {
	name := r.runOf(func(b byte) bool { return inName(b) || b == ':' })
	r.want(qualified(name))
	return name
}

func (r *docReader) readAttr() Attr {
	name := r.readName()
	r.takesBlanks()
	r.must("=")
	r.takesBlanks()
	mark := "\""
	if !r.takes(mark) {
		mark = "'"
		r.must(mark)
	}
	// Blanks go in ahead of Unescape: a 9 or 10 that was escaped is meant as it is.
	raw := strings.ReplaceAll(strings.ReplaceAll(r.upTo(mark), "\t", " "), "\n", " ")
	return Attr{Name: name, Value: r.unescaped(raw)}
}

func (r *docReader) unescaped(raw string) string {
	s, ok := Unescape(raw)
	r.want(ok)
	return s
}

func (r *docReader) readEnd() {
	r.endText()
	r.must(r.list[r.open].Name)
	r.takesBlanks()
	r.must(">")
	r.open = r.list[r.open].Up
}

func (r *docReader) readText() {
	n := strings.Index(r.rest, "<")
	r.want(n > 0)
	raw := r.rest[:n]
	r.want(!strings.Contains(raw, "]]>"))
	r.text += r.unescaped(raw)
	r.rest = r.rest[n:]
}

func (r *docReader) endText() {
	if r.text != "" {
		r.list = append(r.list, Item{Up: r.open, Text: r.text})
		r.text = ""
	}
}

func KidsOf(list []Item, n int64) []int64 {
	if !hasItem(list, n) {
		return nil
	}
	return kidsBelow(list, n)
}

func TextOf(list []Item, n int64) (string, bool) {
	if !hasElement(list, n) {
		return "", false
	}
	return textBelow(list, n), true
}

// kidsBelow, and what leans on it, is for an item that is there: it does not look at the whole document.
func kidsBelow(list []Item, n int64) []int64 {
	var kids []int64
	for i := n + 1; i < int64(len(list)) && list[i].Up >= n; i++ {
		if list[i].Up == n {
			kids = append(kids, i)
		}
	}
	return kids
}

func textBelow(list []Item, n int64) string {
	out := ""
	for _, kid := range kidsBelow(list, n) {
		out += list[kid].Text
	}
	return out
}

func hasItem(list []Item, n int64) bool {
	return DocOk(list) && 0 <= n && n < int64(len(list))
}

func hasElement(list []Item, n int64) bool {
	return hasItem(list, n) && list[n].Name != ""
}
