package tests

import (
	"fmt"
	"math"
	"math/rand"
	"regexp"
	"strconv"
	"strings"
	"testing"
	"time"

	"loop.example/g00262/impl"
)

const (
	oneDay    = 24 * 60 * 60
	mostApart = 14 * 60 * 60
)

var (
	edgeYears = []int64{1, 2, 3, 4, 5, 99, 100, 101, 399, 400, 401, 1582, 1600, 1700, 1900, 1970, 1999, 2000, 2023, 2024, 9996, 9999}
	edgeZones = []int64{-840, -839, -330, -61, -60, -59, -1, 0, 1, 59, 60, 61, 330, 839, 840}
	farOff    = []int64{math.MinInt64, math.MinInt64 + 1, math.MinInt64 / 60, -1 << 32, 1 << 32, 1<<32 + 1, math.MaxInt64/60 + 1, math.MaxInt64 - 1, math.MaxInt64}
)

func bare(year, month, day, hour, minute, second int64) impl.Date {
	return impl.Date{Year: year, Month: month, Day: day, Hour: hour, Minute: minute, Second: second}
}

func inZone(d impl.Date, zone int64) impl.Date {
	d.HasZone, d.Zone = true, zone
	return d
}

// read wants a text that is right.
func read(t *testing.T, s string) impl.Date {
	t.Helper()
	d, ok := impl.ReadDate(s)
	if !ok {
		t.Fatalf("%q is not read", s)
	}
	return d
}

// timeOf is the library's moment of a date, which shares no code with the program.
func timeOf(d impl.Date) time.Time {
	place := time.FixedZone("", int(d.Zone)*60)
	return time.Date(int(d.Year), time.Month(d.Month), int(d.Day), int(d.Hour), int(d.Minute), int(d.Second), 0, place)
}

func secondsOf(d impl.Date) int64 {
	return timeOf(d).Unix() - time.Date(1, 1, 1, 0, 0, 0, 0, time.UTC).Unix()
}

func lastDay(year, month int64) int64 {
	return int64(time.Date(int(year), time.Month(month+1), 0, 0, 0, 0, 0, time.UTC).Day())
}

// edgeDates are right dates without a zone: both ends of months and of days, and between.
func edgeDates() []impl.Date {
	var list []impl.Date
	for _, year := range edgeYears {
		for month := int64(1); month <= 12; month++ {
			last := lastDay(year, month)
			list = append(list, bare(year, month, 1, 0, 0, 0), bare(year, month, 15, 12, 34, 56), bare(year, month, last, 23, 59, 59), bare(year, month, last, 9, 0, 59))
		}
	}
	return list
}

// eachEdge goes through the edge dates without a zone and with each of edgeZones.
func eachEdge(look func(d impl.Date)) {
	for _, d := range edgeDates() {
		look(d)
		for _, zone := range edgeZones {
			look(inZone(d, zone))
		}
	}
}

func wrongDates() map[string]impl.Date {
	list := map[string]impl.Date{
		"the zero value":           {},
		"the zero value, a zone":   {HasZone: true},
		"year 0":                   bare(0, 1, 1, 0, 0, 0),
		"year -1":                  bare(-1, 12, 31, 23, 59, 59),
		"year 10000":               bare(10000, 1, 1, 0, 0, 0),
		"month 0":                  bare(2024, 0, 1, 0, 0, 0),
		"month -1":                 bare(2024, -1, 1, 0, 0, 0),
		"month 13":                 bare(2024, 13, 1, 0, 0, 0),
		"day 0":                    bare(2024, 1, 0, 0, 0, 0),
		"day -1":                   bare(2024, 1, -1, 0, 0, 0),
		"day -1 of no month":       bare(2024, 13, -1, 0, 0, 0),
		"day -1 of no year":        bare(0, 1, -1, 0, 0, 0),
		"February 29, no leap":     bare(2023, 2, 29, 0, 0, 0),
		"February 29, 1900":        bare(1900, 2, 29, 0, 0, 0),
		"February 30, 2000":        bare(2000, 2, 30, 0, 0, 0),
		"hour 24":                  bare(2024, 1, 1, 24, 0, 0),
		"hour -1":                  bare(2024, 1, 1, -1, 0, 0),
		"minute 60":                bare(2024, 1, 1, 23, 60, 59),
		"minute -1":                bare(2024, 1, 1, 0, -1, 0),
		"second 60":                bare(2024, 12, 31, 23, 59, 60),
		"second -1":                bare(2024, 1, 1, 0, 0, -1),
		"zone 841":                 inZone(bare(2024, 1, 1, 0, 0, 0), 841),
		"zone -841":                inZone(bare(2024, 1, 1, 0, 0, 0), -841),
		"a zone without one":       {Year: 2024, Month: 1, Day: 1, Zone: 1},
		"a zone without one, less": {Year: 2024, Month: 1, Day: 1, Zone: -1},
		"a far zone without one":   {Year: 2024, Month: 1, Day: 1, Zone: 840},
	}
	for month := int64(1); month <= 12; month++ {
		for _, year := range []int64{1, 1900, 2000, 2023, 2024, 9999} {
			what := fmt.Sprint("behind the last day of ", month, " in ", year)
			list[what] = bare(year, month, lastDay(year, month)+1, 0, 0, 0)
		}
	}
	for _, n := range farOff {
		list[fmt.Sprint("year ", n)] = bare(n, 1, 1, 0, 0, 0)
		list[fmt.Sprint("month ", n)] = bare(2024, n, 1, 0, 0, 0)
		list[fmt.Sprint("day ", n)] = bare(2024, 1, n, 0, 0, 0)
		list[fmt.Sprint("hour ", n)] = bare(2024, 1, 1, n, 0, 0)
		list[fmt.Sprint("minute ", n)] = bare(2024, 1, 1, 0, n, 0)
		list[fmt.Sprint("second ", n)] = bare(2024, 1, 1, 0, 0, n)
		list[fmt.Sprint("zone ", n)] = inZone(bare(2024, 1, 1, 0, 0, 0), n)
	}
	return list
}

func TestDaysIn(t *testing.T) {
	for year := int64(1); year <= 9999; year++ {
		for month := int64(1); month <= 12; month++ {
			if got := impl.DaysIn(year, month); got != lastDay(year, month) {
				t.Fatalf("%d-%d has %d days", year, month, got)
			}
		}
	}
	for i, want := range []int64{31, 28, 31, 30, 31, 30, 31, 31, 30, 31, 30, 31} {
		if got := impl.DaysIn(2023, int64(i)+1); got != want {
			t.Errorf("month %d has %d days", i+1, got)
		}
	}
	for year, want := range map[int64]int64{1: 28, 4: 29, 100: 28, 400: 29, 1700: 28, 1900: 28, 2000: 29, 2023: 28, 2024: 29, 2100: 28, 9996: 29, 9999: 28} {
		if got := impl.DaysIn(year, 2); got != want {
			t.Errorf("February %d has %d days", year, got)
		}
	}
}

func TestDaysInRefuses(t *testing.T) {
	years := append([]int64{0, -1, -4, -400, 10000, 12000}, farOff...)
	months := append([]int64{0, -1, -2, 13, 14}, farOff...)
	for _, year := range years {
		for month := int64(1); month <= 12; month++ {
			if got := impl.DaysIn(year, month); got != -1 {
				t.Errorf("%d-%d: %d", year, month, got)
			}
		}
	}
	for _, month := range months {
		for _, year := range append([]int64{1, 2000, 2024, 9999}, years...) {
			if got := impl.DaysIn(year, month); got != -1 {
				t.Errorf("%d-%d: %d", year, month, got)
			}
		}
	}
}

func TestRightDatesComeBackFromTheirTexts(t *testing.T) {
	eachEdge(func(d impl.Date) {
		form := "2006-01-02T15:04:05"
		if d.HasZone {
			form += "Z07:00"
		}
		want := timeOf(d).Format(form)
		if s := impl.DateText(d); s != want || !impl.DateOk(d) {
			t.Fatalf("%v is written %q, not %q", d, s, want)
		}
		if back, ok := impl.ReadDate(want); !ok || back != d {
			t.Fatalf("%q gave %v %v", want, back, ok)
		}
	})
}

func TestDateTexts(t *testing.T) {
	for _, c := range []struct {
		s    string
		want impl.Date
		text string
	}{
		{"2024-02-29T23:59:59", bare(2024, 2, 29, 23, 59, 59), "2024-02-29T23:59:59"},
		{"0001-01-01T00:00:00", bare(1, 1, 1, 0, 0, 0), "0001-01-01T00:00:00"},
		{"9999-12-31T23:59:59-14:00", inZone(bare(9999, 12, 31, 23, 59, 59), -840), "9999-12-31T23:59:59-14:00"},
		{"0001-01-01T00:00:00+14:00", inZone(bare(1, 1, 1, 0, 0, 0), 840), "0001-01-01T00:00:00+14:00"},
		{"2000-02-29T07:08:09Z", inZone(bare(2000, 2, 29, 7, 8, 9), 0), "2000-02-29T07:08:09Z"},
		{"2000-02-29T07:08:09+00:00", inZone(bare(2000, 2, 29, 7, 8, 9), 0), "2000-02-29T07:08:09Z"},
		{"2000-02-29T07:08:09-00:00", inZone(bare(2000, 2, 29, 7, 8, 9), 0), "2000-02-29T07:08:09Z"},
		{"1900-02-28T10:20:30-00:01", inZone(bare(1900, 2, 28, 10, 20, 30), -1), "1900-02-28T10:20:30-00:01"},
		{"1900-02-28T10:20:30+13:59", inZone(bare(1900, 2, 28, 10, 20, 30), 839), "1900-02-28T10:20:30+13:59"},
		{"1582-10-10T00:00:00+05:30", inZone(bare(1582, 10, 10, 0, 0, 0), 330), "1582-10-10T00:00:00+05:30"},
	} {
		d, ok := impl.ReadDate(c.s)
		if !ok || d != c.want || impl.DateText(d) != c.text {
			t.Errorf("%q gave %v %v, written %q", c.s, d, ok, impl.DateText(d))
		}
	}
}

func TestEachZoneText(t *testing.T) {
	const day = "2024-06-15T12:00:00"
	for hours := range 100 {
		for minutes := range 100 {
			zone := int64(hours*60 + minutes)
			right := minutes <= 59 && zone <= 840
			for sign, by := range map[string]int64{"+": 1, "-": -1} {
				s := day + fmt.Sprintf("%s%02d:%02d", sign, hours, minutes)
				want := impl.Date{}
				if right {
					want = inZone(bare(2024, 6, 15, 12, 0, 0), by*zone)
				}
				if d, ok := impl.ReadDate(s); ok != right || d != want {
					t.Errorf("%q gave %v %v", s, d, ok)
				}
			}
		}
	}
}

func refusedDate(t *testing.T, s string) {
	t.Helper()
	if d, ok := impl.ReadDate(s); ok || d != (impl.Date{}) {
		t.Errorf("%.60q gave %v %v", s, d, ok)
	}
}

func TestReadDateRefuses(t *testing.T) {
	const right = "2024-02-29T23:59:59"
	for _, s := range []string{
		"", "Z", "T", "+00:00", "2024", "2024-02-29", "23:59:59", "2024-02-29T", "2024-02-29T23:59", "2024-02-29T23:59:5", "2024-02-29T23:59Z", "2024-02-29Z",
		"0000-01-01T00:00:00", "10000-01-01T00:00:00", "02024-01-01T00:00:00", "024-01-01T00:00:00", "-001-01-01T00:00:00", "-0001-01-01T00:00:00", "+2024-01-01T00:00:00", "24-01-01T00:00:00",
		"2024-00-01T00:00:00", "2024-13-01T00:00:00", "2024-1-01T00:00:00", "2024-001-01T00:00:00", "2024-01-1T00:00:00", "2024-01-001T00:00:00", "2024-01-00T00:00:00", "2024-01-32T00:00:00", "2024-04-31T00:00:00",
		"2023-02-29T00:00:00", "1900-02-29T00:00:00", "2000-02-30T00:00:00", "2024-01-01T24:00:00", "2024-01-01T23:60:00", "2024-01-01T23:59:60", "2024-01-01T0:00:00", "2024-01-01T00:0:00", "2024-01-01T00:00:0",
		"2024-01-01t00:00:00", "2024-01-01 00:00:00", "2024/01/01T00:00:00", "2024-01-01T00.00.00", "20240101T000000", "2024-01-01T00-00-00", "2024:01:01T00:00:00", "2024-01-01T00:00:00.0", "2024-01-01T00:00:00.5Z",
		right + "z", right + "ZZ", right + " Z", right + "Z ", right + "+", right + "-", right + "+1", right + "+14", right + "+1400", right + "+14:0", right + "+1:00", right + "+014:00", right + "+14:000", right + "+14-00", right + "14:00", right + " 14:00", right + "=14:00",
		right + "+14:01", right + "-14:01", right + "+14:59", right + "+15:00", right + "-15:00", right + "+99:99", right + "+13:60", right + "-00:60", right + "+00:99", right + "+00:00Z", right + "Z+00:00", right + "+-1:00", right + "++1:00", right + "+01:+1", right + "+00:00:00", right + "±01:00",
		" " + right, right + " ", "\n" + right, right + "\n", right + "\x00", right + right, "2024-02-29T23:59:5٣", "٢٠٢٤-02-29T23:59:59", "2024-02-2\xffT23:59:59", "2024-02-29T 3:59:59", "2024-02-29T+3:59:59", "20 4-02-29T23:59:59",
		strings.Repeat("0", 19), strings.Repeat("2", 20000), right + strings.Repeat("0", 20000), "9223372036854775808-01-01T00:00:00", "18446744073709553640-01-01T00:00:00", "2024-01-01T00:00:00+18446744073709551616:00",
	} {
		refusedDate(t, s)
	}
}

var dateForm = regexp.MustCompile(`\A([0-9]{4})-([0-9]{2})-([0-9]{2})T([0-9]{2}):([0-9]{2}):([0-9]{2})(Z|([+-])([0-9]{2}):([0-9]{2}))?\z`)

// dateOf reads by a pattern and the library's calendar, where a day or an hour too many goes over into the next.
func dateOf(s string) (impl.Date, bool) {
	parts := dateForm.FindStringSubmatch(s)
	if parts == nil {
		return impl.Date{}, false
	}
	number := func(i int) int64 {
		n, _ := strconv.ParseInt(parts[i], 10, 64)
		return n
	}
	d := bare(number(1), number(2), number(3), number(4), number(5), number(6))
	plain := timeOf(d).Format("2006-01-02T15:04:05")
	d.HasZone = parts[7] != ""
	d.Zone = number(9)*60 + number(10)
	ok := d.Year > 0 && plain == s[:19] && d.Zone <= 840 && number(10) <= 59
	if parts[8] == "-" {
		d.Zone = -d.Zone
	}
	if !ok {
		d = impl.Date{}
	}
	return d, ok
}

func TestTextsThatAreNearToDates(t *testing.T) {
	same := func(s string) {
		want, wantOk := dateOf(s)
		if d, ok := impl.ReadDate(s); d != want || ok != wantOk {
			t.Fatalf("%q gave %v %v, not %v %v", s, d, ok, want, wantOk)
		}
	}
	for _, s := range []string{"2024-02-29T23:59:59", "2023-12-31T00:00:00Z", "0001-01-01T09:09:09+14:00", "9999-10-30T19:20:30-13:59", "1900-02-28T10:00:00+00:00"} {
		same(s)
		for i := range len(s) {
			same(s[:i])
			same(s[i:])
			same(s[:i] + s[i+1:])
			for b := range 256 {
				one := string([]byte{byte(b)})
				same(s[:i] + one + s[i+1:])
				same(s[:i] + one + s[i:])
				same(s + one)
			}
		}
	}
}

// Each day of all years, so that no count of days goes astray anywhere.
func TestEachDayIsFollowedByTheNext(t *testing.T) {
	days := int64(0)
	for year := int64(1); year <= 9999; year++ {
		for month := int64(1); month <= 12; month++ {
			for day := int64(1); day <= lastDay(year, month); day++ {
				first, last := bare(year, month, day, 0, 0, 0), bare(year, month, day, 23, 59, 59)
				if impl.SecondsOf(first) != days*oneDay || impl.SecondsOf(last) != days*oneDay+oneDay-1 {
					t.Fatal(first, impl.SecondsOf(first), impl.SecondsOf(last))
				}
				days++
			}
		}
	}
	if days != 3652059 {
		t.Error(days)
	}
}

func TestLastSecondsOfMonths(t *testing.T) {
	for year := int64(1); year <= 9999; year++ {
		for month := int64(1); month <= 12; month++ {
			next := bare(year, month+1, 1, 0, 0, 0)
			if month == 12 {
				next = bare(year+1, 1, 1, 0, 0, 0)
			}
			last := bare(year, month, impl.DaysIn(year, month), 23, 59, 59)
			zone := edgeZones[(year+month)%int64(len(edgeZones))]
			for _, pair := range [][2]impl.Date{{last, next}, {inZone(last, zone), inZone(next, zone)}} {
				if next.Year == 10000 {
					continue
				}
				if impl.SecondsOf(pair[0])+1 != impl.SecondsOf(pair[1]) || impl.CompareDate(pair[0], pair[1]) != -1 || impl.CompareDate(pair[1], pair[0]) != 1 {
					t.Fatal(pair)
				}
			}
		}
	}
}

func TestSecondsOf(t *testing.T) {
	eachEdge(func(d impl.Date) {
		if got := impl.SecondsOf(d); got != secondsOf(d) {
			t.Fatalf("%v lies at %d", d, got)
		}
	})
	for s, want := range map[string]int64{
		"0001-01-01T00:00:00":       0,
		"0001-01-01T00:00:00Z":      0,
		"0001-01-01T00:00:01":       1,
		"0001-01-01T00:00:00+14:00": -mostApart,
		"0001-01-01T00:00:00-14:00": mostApart,
		"0001-01-01T00:00:59+00:01": -1,
		"0001-01-01T00:00:00+00:01": -60,
		"0001-01-01T14:00:00+14:00": 0,
		"0001-01-02T00:00:00":       oneDay,
		"1970-01-01T00:00:00":       62135596800,
		"1970-01-01T00:00:00-00:01": 62135596860,
		"2000-03-01T00:00:00Z":      63087465600,
		"9999-12-31T23:59:59":       315537897599,
		"9999-12-31T23:59:59-14:00": 315537897599 + mostApart,
	} {
		if got := impl.SecondsOf(read(t, s)); got != want {
			t.Errorf("%s lies at %d", s, got)
		}
	}
}

// orderOf is the order as chapter 5 tells it, by the library's moments.
func orderOf(a, b impl.Date) int64 {
	apart := secondsOf(a) - secondsOf(b)
	switch {
	case a.HasZone != b.HasZone && -mostApart <= apart && apart <= mostApart:
		return 2
	case apart < 0:
		return -1
	case apart > 0:
		return 1
	}
	return 0
}

func sameOrder(t *testing.T, a, b impl.Date) {
	t.Helper()
	got, turned := impl.CompareDate(a, b), impl.CompareDate(b, a)
	if got != orderOf(a, b) {
		t.Fatalf("%v and %v: %d", a, b, got)
	}
	if turned != -got && !(got == 2 && turned == 2) {
		t.Fatalf("%v and %v: %d, turned round %d", a, b, got, turned)
	}
}

func TestOrderOfDates(t *testing.T) {
	var list []impl.Date
	for _, d := range []impl.Date{bare(1, 1, 1, 0, 0, 0), bare(1, 1, 1, 14, 0, 0), bare(1, 1, 1, 14, 0, 1), bare(1900, 2, 28, 23, 59, 59), bare(1900, 3, 1, 0, 0, 0), bare(2024, 2, 29, 10, 0, 0), bare(2024, 2, 29, 24-14, 0, 1), bare(2024, 3, 1, 0, 0, 0), bare(2024, 3, 1, 0, 0, 1), bare(9999, 12, 31, 10, 0, 0), bare(9999, 12, 31, 23, 59, 59)} {
		list = append(list, d)
		for _, zone := range edgeZones {
			list = append(list, inZone(d, zone))
		}
	}
	for _, a := range list {
		for _, b := range list {
			sameOrder(t, a, b)
		}
	}
}

func TestCompareDate(t *testing.T) {
	for _, c := range []struct {
		a, b string
		want int64
	}{
		{"2024-01-01T00:00:00", "2024-01-01T00:00:00", 0},
		{"2024-01-01T00:00:00", "2024-01-01T00:00:01", -1},
		{"2024-01-01T00:00:00Z", "2024-01-01T00:00:00+00:00", 0},
		{"2024-01-01T12:00:00+01:00", "2024-01-01T11:00:00Z", 0},
		{"2024-01-01T12:00:00+01:00", "2024-01-01T12:00:00Z", -1},
		{"2024-01-01T12:00:00-01:00", "2024-01-01T12:00:00Z", 1},
		{"2024-01-01T00:00:00+14:00", "2023-12-30T20:00:00-14:00", 0},
		{"2024-01-01T00:00:00Z", "2024-01-01T00:00:00", 2},
		{"2024-01-01T00:00:00Z", "2024-01-01T14:00:00", 2},
		{"2024-01-01T00:00:00Z", "2024-01-01T14:00:01", -1},
		{"2024-01-01T14:00:00Z", "2024-01-01T00:00:00", 2},
		{"2024-01-01T14:00:01Z", "2024-01-01T00:00:00", 1},
		{"2024-01-01T00:00:00", "2024-01-01T14:00:00Z", 2},
		{"2024-01-01T00:00:00", "2024-01-01T14:00:01Z", -1},
		{"2024-01-01T14:00:00", "2024-01-01T00:00:00Z", 2},
		{"2024-01-01T14:00:01", "2024-01-01T00:00:00Z", 1},
		{"2024-01-01T00:00:00+14:00", "2024-01-01T00:00:00", 2},
		{"2024-01-01T00:00:00+14:00", "2024-01-01T00:00:01", -1},
		{"2024-01-01T00:00:00-14:00", "2024-01-01T00:00:00", 2},
		{"2024-01-01T00:00:01-14:00", "2024-01-01T00:00:00", 1},
		{"0001-01-01T00:00:59+00:01", "0001-01-01T00:00:59+00:01", 0},
		{"0001-01-01T00:00:59+00:01", "0001-01-01T00:00:00Z", -1},
		{"0001-01-01T00:00:59+00:01", "0001-01-01T00:00:00", 2},
		{"0001-01-01T00:00:00+14:00", "9999-12-31T23:59:59-14:00", -1},
	} {
		a, b := read(t, c.a), read(t, c.b)
		if got := impl.CompareDate(a, b); got != c.want {
			t.Errorf("%s and %s: %d", c.a, c.b, got)
		}
		sameOrder(t, a, b)
	}
}

// sameMoment holds Shifted against the library's clock in that zone.
func sameMoment(t *testing.T, d impl.Date, zone int64) {
	t.Helper()
	there := timeOf(d).In(time.FixedZone("", int(zone)*60))
	wantOk := 1 <= there.Year() && there.Year() <= 9999
	want := impl.Date{}
	if wantOk {
		want = inZone(bare(int64(there.Year()), int64(there.Month()), int64(there.Day()), int64(there.Hour()), int64(there.Minute()), int64(there.Second())), zone)
	}
	got, ok := impl.Shifted(d, zone)
	if got != want || ok != wantOk {
		t.Fatalf("%v in %d gave %v %v, not %v", d, zone, got, ok, want)
	}
	if !ok {
		return
	}
	if !impl.DateOk(got) || impl.SecondsOf(got) != impl.SecondsOf(d) || impl.CompareDate(got, d) != 0 {
		t.Fatalf("%v in %d is another moment: %v", d, zone, got)
	}
	if back, ok := impl.Shifted(got, d.Zone); !ok || back != d {
		t.Fatalf("%v in %d came back as %v %v", d, zone, back, ok)
	}
}

func TestDatesInOtherZones(t *testing.T) {
	eachEdge(func(d impl.Date) {
		if !d.HasZone {
			return
		}
		for _, zone := range edgeZones {
			sameMoment(t, d, zone)
		}
	})
	for _, d := range []impl.Date{bare(1, 1, 1, 0, 0, 0), bare(1, 1, 1, 13, 59, 59), bare(2023, 12, 31, 12, 0, 0), bare(9999, 12, 31, 10, 0, 0), bare(9999, 12, 31, 23, 59, 59)} {
		for zone := int64(-840); zone <= 840; zone++ {
			sameMoment(t, inZone(d, 0), zone)
			sameMoment(t, inZone(d, zone), 0)
		}
	}
}

func TestShifted(t *testing.T) {
	for _, c := range []struct {
		s    string
		zone int64
		want string // "" when there is none
	}{
		{"2024-02-29T23:59:59-05:30", 0, "2024-03-01T05:29:59Z"},
		{"2024-03-01T00:00:00Z", -1, "2024-02-29T23:59:00-00:01"},
		{"1900-03-01T00:00:00Z", -1, "1900-02-28T23:59:00-00:01"},
		{"2023-12-31T23:59:59Z", 840, "2024-01-01T13:59:59+14:00"},
		{"2024-01-01T00:00:00+14:00", -840, "2023-12-30T20:00:00-14:00"},
		{"2024-01-01T00:00:00+01:00", 60, "2024-01-01T00:00:00+01:00"},
		{"0001-01-01T00:00:00Z", 0, "0001-01-01T00:00:00Z"},
		{"0001-01-01T00:00:00Z", -1, ""},
		{"0001-01-01T00:00:59Z", -1, ""},
		{"0001-01-01T00:01:00Z", -1, "0001-01-01T00:00:00-00:01"},
		{"0001-01-01T14:00:00Z", -840, "0001-01-01T00:00:00-14:00"},
		{"0001-01-01T13:59:59Z", -840, ""},
		{"0001-01-01T00:00:00+14:00", 840, "0001-01-01T00:00:00+14:00"},
		{"0001-01-01T00:00:00+14:00", 839, ""},
		{"9999-12-31T23:59:59Z", 0, "9999-12-31T23:59:59Z"},
		{"9999-12-31T23:59:00Z", 1, ""},
		{"9999-12-31T23:58:59Z", 1, "9999-12-31T23:59:59+00:01"},
		{"9999-12-31T09:59:59Z", 840, "9999-12-31T23:59:59+14:00"},
		{"9999-12-31T10:00:00Z", 840, ""},
		{"9999-12-31T23:59:59-14:00", -840, "9999-12-31T23:59:59-14:00"},
		{"9999-12-31T23:59:59-14:00", -839, ""},
	} {
		d := read(t, c.s)
		got, ok := impl.Shifted(d, c.zone)
		if ok != (c.want != "") || impl.DateText(got) != c.want || !ok && got != (impl.Date{}) {
			t.Errorf("%s in %d gave %v %v", c.s, c.zone, got, ok)
		}
	}
}

func refusedShift(t *testing.T, d impl.Date, zone int64) {
	t.Helper()
	if got, ok := impl.Shifted(d, zone); ok || got != (impl.Date{}) {
		t.Errorf("%v in %d gave %v %v", d, zone, got, ok)
	}
}

func TestShiftedRefuses(t *testing.T) {
	for _, d := range edgeDates() {
		for _, zone := range append([]int64{-841, 841, 60 * 60}, farOff...) {
			refusedShift(t, inZone(d, 0), zone)
		}
		for _, zone := range edgeZones {
			refusedShift(t, d, zone)
		}
	}
}

func TestWrongDates(t *testing.T) {
	rights := []impl.Date{bare(2024, 1, 1, 0, 0, 0), inZone(bare(2024, 1, 1, 0, 0, 0), 0), inZone(bare(1, 1, 1, 0, 0, 59), 1)}
	for what, wrong := range wrongDates() {
		both := []impl.Date{wrong}
		if wrong.Zone == 0 {
			both = append(both, inZone(wrong, 0))
		}
		for _, d := range both {
			if impl.DateOk(d) {
				t.Errorf("%s: right", what)
			}
			if s := impl.DateText(d); s != "" {
				t.Errorf("%s: written %q", what, s)
			}
			if got := impl.SecondsOf(d); got != -1 {
				t.Errorf("%s: lies at %d", what, got)
			}
			for _, right := range append(rights, d) {
				if one, two := impl.CompareDate(d, right), impl.CompareDate(right, d); one != 3 || two != 3 {
					t.Errorf("%s: compared %d %d", what, one, two)
				}
			}
			for _, zone := range append(edgeZones, farOff...) {
				refusedShift(t, d, zone)
			}
		}
	}
}

func (m maker) date() impl.Date {
	year := 1 + m.Int63n(9999)
	if m.Intn(3) == 0 {
		year = 2023 + m.Int63n(2)
	}
	month := 1 + m.Int63n(12)
	d := bare(year, month, 1+m.Int63n(lastDay(year, month)), m.Int63n(24), m.Int63n(60), m.Int63n(60))
	if m.Intn(3) > 0 {
		d = inZone(d, m.Int63n(1681)-840)
	}
	return d
}

// near is a date within some 14 hours of another one, with a zone or without.
func (m maker) near(d impl.Date) impl.Date {
	at := timeOf(d).UTC().Add(time.Duration(m.Int63n(2*mostApart+9)-mostApart-4) * time.Second)
	if at.Year() < 1 || at.Year() > 9999 {
		return d
	}
	e := bare(int64(at.Year()), int64(at.Month()), int64(at.Day()), int64(at.Hour()), int64(at.Minute()), int64(at.Second()))
	e.HasZone = m.Intn(2) == 0
	return e
}

func TestRandomDates(t *testing.T) {
	m := maker{rand.New(rand.NewSource(5))}
	for range 20000 {
		a := m.date()
		if back, ok := impl.ReadDate(impl.DateText(a)); !ok || back != a {
			t.Fatalf("%v came back as %v", a, back)
		}
		if got := impl.SecondsOf(a); got != secondsOf(a) {
			t.Fatalf("%v lies at %d", a, got)
		}
		sameOrder(t, a, m.date())
		sameOrder(t, a, m.near(a))
		if a.HasZone {
			sameMoment(t, a, m.Int63n(1681)-840)
		}
	}
}
