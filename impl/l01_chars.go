package impl

import (
	"strings"
	"unicode/utf8"
)

const (
	MaxText = 20000
	MaxName = 40
)

func Runes(s string) ([]int64, bool) {
	// A range alone would take broken bytes for the character 65533.
	if len(s) > MaxText || !utf8.ValidString(s) {
		return nil, false
	}
	var list []int64
	for _, r := range s {
		list = append(list, int64(r))
	}
	return list, true
}

func OfRunes(list []int64) (string, bool) {
	var out []byte
	for _, r := range list {
		if !isChar(r) {
			return "", false
		}
		out = utf8.AppendRune(out, rune(r))
		if len(out) > MaxText {
			return "", false
		}
	}
	return string(out), true
}

func isChar(r int64) bool {
	return between(r, 0, 55295) || between(r, 57344, 1114111)
}

func between(r int64, low int64, high int64) bool {
	return low <= r && r <= high
}

func CharOk(r int64) bool {
	return r == 9 || r == 10 || r == 13 ||
		between(r, 32, 55295) || between(r, 57344, 65533) || between(r, 65536, 1114111)
}

func plain(s string) bool {
	list, ok := Runes(s)
	if !ok {
		return false
	}
	for _, r := range list {
		if !CharOk(r) {
			return false
		}
	}
	return true
}

func NameOk(s string) bool {
	if len(s) < 1 || len(s) > MaxName || !beginsName(s[0]) {
		return false
	}
	for i := 1; i < len(s); i++ {
		if !inName(s[i]) {
			return false
		}
	}
	return true
}

func beginsName(b byte) bool {
	return 'a' <= b && b <= 'z' || 'A' <= b && b <= 'Z' || b == '_'
}

func inName(b byte) bool {
	return beginsName(b) || '0' <= b && b <= '9' || b == '.' || b == '-'
}

func Split(s string) (string, string, bool) {
	prefix, local, found := strings.Cut(s, ":")
	if !found {
		prefix, local = "", s
	}
	if found && !NameOk(prefix) || !NameOk(local) {
		return "", "", false
	}
	return prefix, local, true
}

func Lines(s string) string {
	// The pairs go first: what is left over of 13 then stands alone.
	return strings.ReplaceAll(strings.ReplaceAll(s, "\r\n", "\n"), "\r", "\n")
}
