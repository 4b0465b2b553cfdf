package tests

import (
	"math"
	"slices"
	"strings"
	"testing"

	"loop.example/g00262/impl"
)

// encode writes a character in as few bytes as hold it, by arithmetic alone.
func encode(r int64) string {
	low := func(shift int64) byte { return byte(128 + r>>shift%64) }
	switch {
	case r < 128:
		return string([]byte{byte(r)})
	case r < 2048:
		return string([]byte{byte(192 + r>>6), low(0)})
	case r < 65536:
		return string([]byte{byte(224 + r>>12), low(6), low(0)})
	}
	return string([]byte{byte(240 + r>>18), low(12), low(6), low(0)})
}

// edges are the first and last characters of each range and of each length.
var edges = []int64{0, 1, 9, 10, 13, 31, 32, 127, 128, 2047, 2048, 55295, 57344, 65533, 65534, 65535, 65536, 1114111}

var noChars = []int64{-1, 55296, 56000, 57343, 1114112, 1<<32 + 65, math.MinInt64, math.MaxInt64}

func TestEachCharacterIsItsBytesAndBack(t *testing.T) {
	for r := int64(0); r <= 1114111; r++ {
		if 55296 <= r && r <= 57343 {
			continue
		}
		list, ok := impl.Runes(encode(r))
		if !ok || len(list) != 1 || list[0] != r {
			t.Fatal(r, list, ok)
		}
		if s, ok := impl.OfRunes(list); !ok || s != encode(r) {
			t.Fatalf("%d %q %v", r, s, ok)
		}
	}
}

func TestTextsAreTheirCharactersAndBack(t *testing.T) {
	for _, list := range [][]int64{nil, {97}, {65533}, edges, {233, 8364, 128512, 0, 233}} {
		want := ""
		for _, r := range list {
			want += encode(r)
		}
		s, ok := impl.OfRunes(list)
		if !ok || s != want {
			t.Errorf("%v %q %v", list, s, ok)
		}
		if back, ok := impl.Runes(want); !ok || !slices.Equal(back, list) {
			t.Errorf("%q %v %v", want, back, ok)
		}
	}
}

func TestNumbersThatAreNoCharacters(t *testing.T) {
	for _, r := range noChars {
		for _, list := range [][]int64{{r}, {97, r}, {r, 97}} {
			if s, ok := impl.OfRunes(list); ok || s != "" {
				t.Errorf("%v %q", list, s)
			}
		}
	}
}

func TestTextLimit(t *testing.T) {
	for _, r := range []int64{97, 233, 8364, 128512} {
		one := encode(r)
		full := strings.Repeat("a", impl.MaxText%len(one)) + strings.Repeat(one, impl.MaxText/len(one))
		list, ok := impl.Runes(full)
		if !ok || len(list) != impl.MaxText%len(one)+impl.MaxText/len(one) {
			t.Fatal(r, len(list), ok)
		}
		if s, ok := impl.OfRunes(list); !ok || s != full {
			t.Error(r, len(s), ok)
		}
		if back, ok := impl.Runes("a" + full); ok || len(back) != 0 {
			t.Error(r, len(back))
		}
		if s, ok := impl.OfRunes(append([]int64{97}, list...)); ok || s != "" {
			t.Error(r, len(s))
		}
	}
}

func refusedRunes(t *testing.T, s string) {
	t.Helper()
	for _, whole := range []string{s, "a" + s, s + "a"} {
		if list, ok := impl.Runes(whole); ok || len(list) != 0 {
			t.Fatalf("%x %v", whole, list)
		}
	}
}

func follows(b int) bool { return 128 <= b && b <= 191 }

func TestBytesThatAreNoText(t *testing.T) {
	for a := 128; a < 256; a++ {
		refusedRunes(t, string([]byte{byte(a)}))
		for b := range 256 {
			if !(194 <= a && a <= 223 && follows(b)) {
				refusedRunes(t, string([]byte{byte(a), byte(b)}))
			}
		}
	}
	for a := 224; a < 240; a++ {
		for b := range 256 {
			for _, c := range []int{0, 127, 128, 191, 192, 255} {
				r := int64(a-224)<<12 + int64(b-128)<<6 + int64(c-128)
				if follows(b) && follows(c) && r >= 2048 && (r < 55296 || r > 57343) {
					continue
				}
				refusedRunes(t, string([]byte{byte(a), byte(b), byte(c)}))
			}
		}
	}
	for a := 240; a < 256; a++ {
		for b := range 256 {
			for _, c := range []int{127, 128, 191, 192} {
				r := int64(a-240)<<18 + int64(b-128)<<12 + int64(c-128)
				if follows(b) && follows(c) && r >= 65536 && r <= 1114111 {
					continue
				}
				refusedRunes(t, string([]byte{byte(a), byte(b), 128, byte(c)}))
			}
		}
	}
	for _, r := range []int64{233, 8364, 128512} {
		for n := 1; n < len(encode(r)); n++ {
			refusedRunes(t, encode(r)[:n])
		}
	}
}

func TestCharOk(t *testing.T) {
	good := []int64{9, 10, 13, 32, 33, 127, 128, 55295, 57344, 65533, 65536, 1114111}
	bad := []int64{0, 1, 8, 11, 12, 14, 31, 55296, 57343, 65534, 65535, 1114112, -1, -9, 1<<32 + 9, math.MinInt64, math.MaxInt64}
	for _, r := range good {
		if !impl.CharOk(r) {
			t.Error(r)
		}
	}
	for _, r := range bad {
		if impl.CharOk(r) {
			t.Error(r)
		}
	}
}

const (
	nameFirst = "abcdefghijklmnopqrstuvwxyzABCDEFGHIJKLMNOPQRSTUVWXYZ_"
	nameOther = nameFirst + "0123456789.-"
)

func TestNameBytes(t *testing.T) {
	for b := range 256 {
		s := string([]byte{byte(b)})
		if impl.NameOk(s) != strings.Contains(nameFirst, s) || impl.NameOk(s+"a") != strings.Contains(nameFirst, s) {
			t.Errorf("first %q", s)
		}
		if impl.NameOk("a"+s) != strings.Contains(nameOther, s) || impl.NameOk("_"+s+"z") != strings.Contains(nameOther, s) {
			t.Errorf("other %q", s)
		}
	}
}

func TestNameLimit(t *testing.T) {
	for _, one := range []string{"a", "Z", "_"} {
		if !impl.NameOk(strings.Repeat(one, impl.MaxName)) || impl.NameOk(strings.Repeat(one, impl.MaxName+1)) {
			t.Error(one)
		}
	}
	if impl.NameOk("") || impl.NameOk("é") || impl.NameOk("aé") || impl.NameOk("a:b") {
		t.Error("no names")
	}
}

func TestSplitTakesPrefixAndRest(t *testing.T) {
	long := strings.Repeat("a", impl.MaxName)
	names := []string{"a", "_", "Z9", "x.y-z", long}
	for _, name := range names {
		if p, n, ok := impl.Split(name); !ok || p != "" || n != name {
			t.Error(p, n, ok)
		}
		for _, prefix := range names {
			if p, n, ok := impl.Split(prefix + ":" + name); !ok || p != prefix || n != name {
				t.Error(p, n, ok)
			}
		}
	}
}

func TestSplitRefuses(t *testing.T) {
	long := strings.Repeat("a", impl.MaxName+1)
	for _, s := range []string{"", ":", "::", ":a", "a:", "a::b", ":a:b", "a:b:", "a:b:c", "1", "1:a", "a:1", "-a:b", "a:.b", "a b", "a: b", "a :b", "a\n", long, long + ":a", "a:" + long, "é:a", "a:\xff"} {
		if p, n, ok := impl.Split(s); ok || p != "" || n != "" {
			t.Errorf("%q %q %q", s, p, n)
		}
	}
}

// linesOf goes byte by byte, as the words of the document do.
func linesOf(s string) string {
	var out []byte
	for i := 0; i < len(s); i++ {
		switch {
		case s[i] != 13:
			out = append(out, s[i])
		case i+1 == len(s) || s[i+1] != 10:
			out = append(out, 10)
		}
	}
	return string(out)
}

func TestLines(t *testing.T) {
	level := []string{""}
	for range 8 {
		var next []string
		for _, s := range level {
			got := impl.Lines(s)
			if got != linesOf(s) || strings.Contains(got, "\r") || impl.Lines(got) != got {
				t.Fatalf("%q %q", s, got)
			}
			next = append(next, s+"a", s+"\r", s+"\n")
		}
		level = next
	}
	for _, c := range []struct{ s, want string }{
		{"a\r\nb", "a\nb"}, {"a\rb", "a\nb"}, {"\n\r", "\n\n"}, {"\r\r\n", "\n\n"}, {"\r\n\n", "\n\n"}, {"\r", "\n"},
		{"\xff\r\xc3", "\xff\n\xc3"}, {"\x00\r\n€\t ", "\x00\n€\t "}, {strings.Repeat("\r", impl.MaxText+1), strings.Repeat("\n", impl.MaxText+1)},
	} {
		if got := impl.Lines(c.s); got != c.want {
			t.Errorf("%q %q", c.s, got)
		}
	}
}

func TestCharsLeaveTheirArguments(t *testing.T) {
	room := append([]int64{97, 233, 8364}, edges...)
	kept := slices.Clone(room)
	first, _ := impl.OfRunes(room[:3])
	again, _ := impl.OfRunes(room[:3])
	if first != again || !slices.Equal(room, kept) {
		t.Error(first, again, room)
	}
	one, _ := impl.Runes("abc")
	two, _ := impl.Runes("abc")
	one[0] = 0
	if two[0] != 97 {
		t.Error("shared memory")
	}
}
