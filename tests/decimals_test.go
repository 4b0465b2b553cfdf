package tests

import (
	"fmt"
	"math"
	"math/big"
	"math/rand"
	"strings"
	"testing"

	"loop.example/g00262/impl"
)

func dec(neg bool, digits string, scale int64) impl.Dec {
	return impl.Dec{Neg: neg, Digits: digits, Scale: scale}
}

func nines(n int) string { return strings.Repeat("9", n) }

func noughts(n int) string { return strings.Repeat("0", n) }

// edgeDecs are right numbers at the limits and near to them, and ordinary ones.
func edgeDecs() []impl.Dec {
	const most = impl.MaxDigits
	list := []impl.Dec{{}}
	for _, neg := range []bool{false, true} {
		for _, scale := range []int64{0, 1, 2, 3, most - 1, most} {
			for _, digits := range []string{"1", "2", "5", "9", "15", "25", "99", "101", "375", "12345678901234567890123", nines(most - 1), nines(most), "1" + noughts(most-2) + "1", "5" + noughts(most-2) + "5", "123456789" + nines(most-9)} {
				list = append(list, dec(neg, digits, scale))
			}
		}
		for _, digits := range []string{"10", "100", "1" + noughts(most-1), nines(most-1) + "0"} {
			list = append(list, dec(neg, digits, 0))
		}
	}
	return list
}

func wrongDecs() map[string]impl.Dec {
	const most = impl.MaxDigits
	return map[string]impl.Dec{
		"nought below 0":          {Neg: true},
		"nought with a scale":     {Scale: 1},
		"nought with scale -1":    {Scale: -1},
		"nought below 0, scaled":  {Neg: true, Scale: 3},
		"a digit 0":               dec(false, "0", 0),
		"a nought ahead":          dec(false, "07", 0),
		"a nought ahead, scaled":  dec(false, "05", 1),
		"a nought behind, scaled": dec(false, "50", 1),
		"noughts behind, scaled":  dec(true, "500", 60),
		"scale -1":                dec(false, "5", -1),
		"scale too great":         dec(false, "5", most+1),
		"scale far too great":     dec(false, "5", math.MaxInt64),
		"scale far too small":     dec(false, "5", math.MinInt64),
		"scale past 32 bits":      dec(false, "5", 1<<32),
		"too many digits":         dec(false, nines(most+1), 0),
		"too many digits, scaled": dec(false, nines(most+1), 1),
		"far too many digits":     dec(false, nines(20*most), 0),
		"a sign":                  dec(false, "-5", 0),
		"a plus":                  dec(false, "+5", 0),
		"a point":                 dec(false, "1.5", 0),
		"a letter":                dec(false, "1e5", 0),
		"a letter at the end":     dec(false, "1a", 1),
		"a byte ahead of 0":       dec(false, "5/5", 0),
		"a byte behind 9":         dec(false, "5:", 0),
		"a byte behind 9, first":  dec(false, ":5", 0),
		"a blank":                 dec(false, " 5", 0),
		"other digits":            dec(false, "٣", 0),
		"bytes 0 .. 9":            dec(false, "\x01\x02", 0),
		"no text":                 dec(false, "5\xff", 0),
	}
}

// ratOf is the number as a fraction, made from Digits and Scale alone.
func ratOf(d impl.Dec) *big.Rat {
	n, ok := new(big.Int).SetString("0"+d.Digits, 10)
	if !ok {
		panic(d)
	}
	if d.Neg {
		n.Neg(n)
	}
	return new(big.Rat).SetFrac(n, new(big.Int).Exp(big.NewInt(10), big.NewInt(d.Scale), nil))
}

// decOfRat is the right number that a fraction is, by as many places behind the point as no product passes.
func decOfRat(r *big.Rat) (impl.Dec, bool) {
	s := r.FloatString(2 * impl.MaxDigits)
	whole, part, _ := strings.Cut(strings.TrimPrefix(s, "-"), ".")
	part = strings.TrimRight(part, "0")
	digits := strings.TrimLeft(whole+part, "0")
	if digits == "" {
		return impl.Dec{}, true
	}
	return dec(r.Sign() < 0, digits, int64(len(part))), len(part) <= impl.MaxDigits && len(digits) <= impl.MaxDigits
}

func sameDec(t *testing.T, what string, got impl.Dec, ok bool, r *big.Rat) {
	t.Helper()
	want, wantOk := decOfRat(r)
	if !wantOk {
		want = impl.Dec{}
	}
	if got != want || ok != wantOk {
		t.Fatalf("%s gave %v %v, not %v %v", what, got, ok, want, wantOk)
	}
	if !impl.DecOk(got) {
		t.Fatalf("%s: %v is not right", what, got)
	}
}

func TestDecOk(t *testing.T) {
	for _, d := range edgeDecs() {
		if !impl.DecOk(d) {
			t.Errorf("%v", d)
		}
	}
	for what, d := range wrongDecs() {
		if impl.DecOk(d) {
			t.Errorf("%s: %v", what, d)
		}
	}
	for b := range 256 {
		s := string([]byte{byte(b)})
		isDigit := '0' <= b && b <= '9'
		if impl.DecOk(dec(false, s, 0)) != (isDigit && b != '0') || impl.DecOk(dec(true, "1"+s+"1", 2)) != isDigit {
			t.Errorf("%q", s)
		}
	}
}

func TestNumbersComeBackFromTheirTexts(t *testing.T) {
	for _, d := range edgeDecs() {
		s := impl.DecText(d)
		if s != ratOf(d).FloatString(int(d.Scale)) {
			t.Errorf("%v is written %q", d, s)
		}
		if back, ok := impl.ReadDec(s); !ok || back != d {
			t.Errorf("%q gave %v %v", s, back, ok)
		}
	}
	for _, c := range []struct {
		d    impl.Dec
		want string
	}{
		{impl.Dec{}, "0"}, {dec(false, "7", 0), "7"}, {dec(true, "7", 0), "-7"}, {dec(false, "100", 0), "100"}, {dec(false, "15", 1), "1.5"}, {dec(true, "15", 2), "-0.15"},
		{dec(false, "15", 3), "0.015"}, {dec(true, "1", 60), "-0." + noughts(59) + "1"}, {dec(false, nines(60), 60), "0." + nines(60)}, {dec(false, nines(60), 59), "9." + nines(59)}, {dec(false, nines(60), 0), nines(60)},
	} {
		if s := impl.DecText(c.d); s != c.want {
			t.Errorf("%v is written %q", c.d, s)
		}
	}
}

func TestReadDec(t *testing.T) {
	const most, bytes = impl.MaxDigits, 3 * impl.MaxDigits
	for _, c := range []struct {
		s    string
		want impl.Dec
	}{
		{"0", impl.Dec{}}, {"-0", impl.Dec{}}, {"+0", impl.Dec{}}, {"0.", impl.Dec{}}, {".0", impl.Dec{}}, {"-.0", impl.Dec{}}, {"-000.000", impl.Dec{}}, {"+00", impl.Dec{}},
		{"7", dec(false, "7", 0)}, {"007", dec(false, "7", 0)}, {"-7", dec(true, "7", 0)}, {"+7", dec(false, "7", 0)}, {"700", dec(false, "700", 0)}, {"-0700", dec(true, "700", 0)},
		{"5.", dec(false, "5", 0)}, {"50.", dec(false, "50", 0)}, {".5", dec(false, "5", 1)}, {"-.5", dec(true, "5", 1)}, {"+.50", dec(false, "5", 1)}, {"0.50", dec(false, "5", 1)}, {"5.0", dec(false, "5", 0)}, {"50.0", dec(false, "50", 0)}, {"50.00", dec(false, "50", 0)},
		{"0.0050", dec(false, "5", 3)}, {"10.010", dec(false, "1001", 2)}, {"100.5", dec(false, "1005", 1)}, {"-012.340", dec(true, "1234", 2)},
		{nines(most), dec(false, nines(most), 0)}, {"-" + nines(most) + ".", dec(true, nines(most), 0)}, {"." + nines(most), dec(false, nines(most), most)}, {nines(30) + "." + nines(30), dec(false, nines(most), 30)},
		{"1" + noughts(most-1), dec(false, "1"+noughts(most-1), 0)}, {"1" + noughts(most-1) + ".0", dec(false, "1"+noughts(most-1), 0)}, {"." + noughts(most-1) + "1", dec(false, "1", most)}, {"0." + noughts(most-1) + "10", dec(false, "1", most)},
		{noughts(bytes), impl.Dec{}}, {"-" + noughts(bytes), impl.Dec{}}, {"+" + noughts(bytes-1) + "7", dec(false, "7", 0)}, {"-." + noughts(bytes-1), impl.Dec{}}, {"7." + noughts(bytes-2), dec(false, "7", 0)}, {noughts(bytes-1) + ".", impl.Dec{}},
		{"-" + noughts(60) + nines(30) + "." + nines(30) + noughts(59), dec(true, nines(60), 30)}, {noughts(bytes-most) + nines(most), dec(false, nines(most), 0)}, {"." + nines(most) + noughts(bytes-most-1), dec(false, nines(most), most)},
	} {
		if d, ok := impl.ReadDec(c.s); !ok || d != c.want {
			t.Errorf("%q gave %v %v", c.s, d, ok)
		}
	}
}

func TestReadDecRefuses(t *testing.T) {
	const most, bytes = impl.MaxDigits, 3 * impl.MaxDigits
	for _, s := range []string{
		"", "+", "-", ".", "+.", "-.", "--1", "++1", "+-1", "-+1", "1-", "1+", "1-1", " 1", "1 ", "1\n", "\t1", "1 000", "1e5", "1E5", "0x10", "1_000", "1,5", "1.2.3", "1..2", "..", ".1.", "-1.-5", "1.+5", "1.5-", "a", "1a", "a1", "1.a", "NaN", "INF", "Inf", "٣", "1\x00", "\xff", "1.5f", "½", "/", ":", "1/2", "1:",
		nines(most + 1), "1" + noughts(most), "1" + noughts(most) + ".", "." + nines(most+1), "." + noughts(most) + "1", "1." + nines(most), nines(most) + ".9", nines(31) + "." + nines(30), "-" + nines(most+1), "1." + noughts(most-1) + "1", "1" + noughts(most-1) + ".1",
		noughts(bytes + 1), "-" + noughts(bytes+1), "+" + noughts(bytes) + "7", "7." + noughts(bytes-1), noughts(bytes) + ".", "." + noughts(bytes), noughts(20000), nines(20000), strings.Repeat(".", 20000),
	} {
		if d, ok := impl.ReadDec(s); ok || d != (impl.Dec{}) {
			t.Errorf("%.70q gave %v", s, d)
		}
	}
}

// Each text of few bytes is read just where the document's words, as an expression, take it.
func TestEachShortTextOfNumbers(t *testing.T) {
	level := []string{""}
	for range 7 {
		var next []string
		for _, s := range level {
			d, ok := impl.ReadDec(s)
			rest := s
			if s != "" && strings.Contains("+-", s[:1]) {
				rest = s[1:]
			}
			plainly := !strings.ContainsAny(rest, "+-a") && strings.Count(rest, ".") <= 1 && strings.Trim(rest, ".") != ""
			if ok != plainly || !ok && d != (impl.Dec{}) {
				t.Fatalf("%q gave %v %v", s, d, ok)
			}
			if r, isRat := new(big.Rat).SetString(s); ok && isRat {
				sameDec(t, s, d, ok, r)
			}
			for _, b := range []string{"0", "1", ".", "-", "+", "a"} {
				next = append(next, s+b)
			}
		}
		level = next
	}
}

func TestNumbersHaveAnOrder(t *testing.T) {
	list := edgeDecs()
	for _, a := range list {
		for _, b := range list {
			got := impl.CompareDec(a, b)
			if got != int64(ratOf(a).Cmp(ratOf(b))) || got != -impl.CompareDec(b, a) || (got == 0) != (a == b) {
				t.Fatalf("%v and %v: %d", a, b, got)
			}
		}
	}
	for _, c := range []struct {
		a, b string
		want int64
	}{
		{"0", "0", 0}, {"0", "0.1", -1}, {"0", "-0.1", 1}, {"-0.1", "0", -1}, {"1", "-1", 1}, {"2", "10", -1}, {"-2", "-10", 1}, {"0.2", "0.10", 1}, {"0.25", "0.3", -1}, {"-0.25", "-0.3", 1}, {"99", "99.5", -1}, {"100", "99.99", 1}, {"1.5", "1.50", 0}, {"-1", "0.5", -1},
	} {
		a, _ := impl.ReadDec(c.a)
		b, _ := impl.ReadDec(c.b)
		if got := impl.CompareDec(a, b); got != c.want {
			t.Errorf("%s and %s: %d", c.a, c.b, got)
		}
	}
}

func TestSumsAndProducts(t *testing.T) {
	list := edgeDecs()
	for _, a := range list {
		for _, b := range list {
			sumAndProduct(t, a, b)
		}
	}
}

func sumAndProduct(t *testing.T, a, b impl.Dec) {
	t.Helper()
	sum, ok := impl.AddDec(a, b)
	sameDec(t, fmt.Sprint(a, " + ", b), sum, ok, new(big.Rat).Add(ratOf(a), ratOf(b)))
	if other, otherOk := impl.AddDec(b, a); other != sum || otherOk != ok {
		t.Fatalf("%v + %v the other way round: %v", a, b, other)
	}
	if less := negative(b); ok {
		if back, ok := impl.AddDec(sum, less); !ok || back != a {
			t.Fatalf("%v + %v - %v: %v %v", a, b, b, back, ok)
		}
	}
	product, ok := impl.TimesDec(a, b)
	sameDec(t, fmt.Sprint(a, " * ", b), product, ok, new(big.Rat).Mul(ratOf(a), ratOf(b)))
	if other, otherOk := impl.TimesDec(b, a); other != product || otherOk != ok {
		t.Fatalf("%v * %v the other way round: %v", a, b, other)
	}
}

func negative(d impl.Dec) impl.Dec {
	d.Neg = !d.Neg && d.Digits != ""
	return d
}

func (m maker) dec() impl.Dec {
	most := m.Intn(impl.MaxDigits)
	if m.Intn(3) > 0 {
		most = m.Intn(6)
	}
	digits := m.pick("1", "2", "4", "5", "8", "9")
	for len(digits) <= most {
		digits += m.pick("0", "0", "1", "2", "4", "5", "9", "9")
	}
	scale := int64(m.Intn(impl.MaxDigits + 1))
	if m.Intn(3) > 0 {
		scale = int64(m.Intn(4))
	}
	for scale > 0 && strings.HasSuffix(digits, "0") {
		digits, scale = digits[:len(digits)-1], scale-1
	}
	return dec(m.Intn(2) == 0, digits, scale)
}

func TestRandomNumbers(t *testing.T) {
	m := maker{rand.New(rand.NewSource(4))}
	whole := 0
	for range 6000 {
		a, b, c := m.dec(), m.dec(), m.dec()
		sumAndProduct(t, a, b)
		if m.Intn(10) == 0 {
			sumAndProduct(t, a, negative(a))
		}
		if back, ok := impl.ReadDec(impl.DecText(a)); !ok || back != a {
			t.Fatalf("%v came back as %v", a, back)
		}
		if impl.CompareDec(a, b) <= 0 && impl.CompareDec(b, c) <= 0 && impl.CompareDec(a, c) > 0 {
			t.Fatalf("no order: %v %v %v", a, b, c)
		}
		if goesOver(t, a, b, c) {
			whole++
		}
	}
	if whole < 1000 {
		t.Error("too few products went over sums:", whole)
	}
}

// goesOver asks that a (b + c) = a b + a c, where all of these are right.
func goesOver(t *testing.T, a, b, c impl.Dec) bool {
	t.Helper()
	sum, ok1 := impl.AddDec(b, c)
	left, ok2 := impl.TimesDec(a, sum)
	one, ok3 := impl.TimesDec(a, b)
	two, ok4 := impl.TimesDec(a, c)
	right, ok5 := impl.AddDec(one, two)
	if !(ok1 && ok2 && ok3 && ok4 && ok5) {
		return false
	}
	if left != right {
		t.Fatalf("%v (%v + %v): %v and %v", a, b, c, left, right)
	}
	return true
}

func TestSumsAndProductsAtTheLimits(t *testing.T) {
	const most = impl.MaxDigits
	one := dec(false, "1", 0)
	least := dec(false, "1", most)
	great := dec(false, nines(most), 0)
	top := dec(false, "1"+noughts(most-1), 0)
	for _, c := range []struct {
		what string
		a, b impl.Dec
		sum  string // "" when there is none
		prod string
	}{
		{"carries through", dec(false, nines(most-1), 0), one, "1" + noughts(most-1), nines(most - 1)},
		{"carries past the limit", great, one, "", nines(most)},
		{"carries past the limit below 0", negative(great), negative(one), "", nines(most)},
		{"cancels", great, negative(great), "0", ""},
		{"cancels but for one", top, negative(one), nines(most - 1), "-1" + noughts(most-1)},
		{"with the least", one, least, "", "0." + noughts(most-1) + "1"},
		{"the least twice", least, least, "0." + noughts(most-1) + "2", ""},
		{"the least and its like", least, negative(least), "0", ""},
		{"as many digits as may be", dec(false, "9", 1), dec(false, nines(most-1), 0), nines(most-1) + ".9", "8" + nines(most-2) + ".1"},
		{"one digit more", dec(false, "9", 1), top, "", "9" + noughts(most-2)},
		{"a product of as many as may be", dec(false, "1"+noughts(29), 0), dec(false, "1"+noughts(30), 0), "11" + noughts(29), "1" + noughts(59)},
		{"a product of one more", dec(false, "1"+noughts(30), 0), dec(false, "1"+noughts(30), 0), "2" + noughts(30), ""},
		{"a scale of as many as may be", dec(false, "1", 30), dec(true, "3", 30), "-0." + noughts(29) + "2", "-0." + noughts(59) + "3"},
		{"a scale of one more", dec(false, "1", 30), dec(false, "3", 31), "0." + noughts(29) + "13", ""},
		{"a scale that noughts make less", dec(false, "5", 30), dec(false, "2", 31), "0." + noughts(29) + "52", "0." + noughts(59) + "1"},
		{"noughts ahead of the point stay", dec(false, "25", 1), dec(false, "40", 0), "42.5", "100"},
		{"with nought", impl.Dec{}, great, nines(most), "0"},
		{"with nought below 0", negative(great), impl.Dec{}, "-" + nines(most), "0"},
		{"noughts", impl.Dec{}, impl.Dec{}, "0", "0"},
		{"carries over the point", dec(false, "5", 1), dec(false, "5", 1), "1", "0.25"},
		{"borrows over the point", one, dec(true, "1", 2), "0.99", "-0.01"},
		{"below 0 by below 0", dec(true, "15", 1), dec(true, "2", 0), "-3.5", "3"},
	} {
		sumAndProduct(t, c.a, c.b)
		sum, ok := impl.AddDec(c.a, c.b)
		if ok != (c.sum != "") || ok && impl.DecText(sum) != c.sum {
			t.Errorf("%s: sum %v %v", c.what, sum, ok)
		}
		product, ok := impl.TimesDec(c.a, c.b)
		if ok != (c.prod != "") || ok && impl.DecText(product) != c.prod {
			t.Errorf("%s: product %v %v", c.what, product, ok)
		}
	}
}

func TestWrongNumbers(t *testing.T) {
	for what, d := range wrongDecs() {
		if s := impl.DecText(d); s != "" {
			t.Errorf("%s: written %q", what, s)
		}
		if n := impl.TotalDigits(d); n != -1 {
			t.Errorf("%s: %d digits", what, n)
		}
		for _, right := range []impl.Dec{{}, dec(false, "1", 0), dec(true, "15", 1), d} {
			for _, pair := range [][2]impl.Dec{{d, right}, {right, d}} {
				if n := impl.CompareDec(pair[0], pair[1]); n != 2 {
					t.Errorf("%s: compared %d", what, n)
				}
				if sum, ok := impl.AddDec(pair[0], pair[1]); ok || sum != (impl.Dec{}) {
					t.Errorf("%s: sum %v", what, sum)
				}
				if product, ok := impl.TimesDec(pair[0], pair[1]); ok || product != (impl.Dec{}) {
					t.Errorf("%s: product %v", what, product)
				}
			}
		}
	}
}

func TestTotalDigits(t *testing.T) {
	for _, d := range edgeDecs() {
		want := int64(len(d.Digits))
		if d.Digits == "" {
			want = 1
		}
		if got := impl.TotalDigits(d); got != want {
			t.Errorf("%v: %d", d, got)
		}
	}
	for s, want := range map[string]int64{"0": 1, "7": 1, "-0.5": 1, "0.0050": 1, "100": 3, "1.50": 2, "10.01": 4, nines(60): 60} {
		d, _ := impl.ReadDec(s)
		if got := impl.TotalDigits(d); got != want {
			t.Errorf("%s: %d", s, got)
		}
	}
}
