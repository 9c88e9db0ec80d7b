package dos_test

import (
	"math"
	"math/rand"
	"strings"
	"testing"
	"time"

	"lighter/dos"
)

var (
	first = dos.Time{Year: 1980, Month: 1, Day: 1}
	last  = dos.Time{Year: 2107, Month: 12, Day: 31, Hour: 23, Minute: 59, Second: 58}
	some  = dos.Time{Year: 2026, Month: 11, Day: 18, Hour: 22, Minute: 44, Second: 6}
)

const (
	allDays = 46751
	perDay  = 43200
)

// partOf a time, by its place.
func partOf(t *dos.Time, part int) *int {
	return []*int{&t.Year, &t.Month, &t.Day, &t.Hour, &t.Minute, &t.Second}[part]
}

// bad: times that may not be.
func bad() []dos.Time {
	l := []dos.Time{{}}
	far := []int{-1, -2, math.MinInt, math.MinInt + 1, math.MaxInt, math.MaxInt - 1, 1 << 32, 1<<32 + 2, -1 << 16}
	for part, beyond := range [][]int{
		{0, 1, 80, 1979, 2108, 2109, 1980 + 128, 1980 + 65536},
		{0, 13, 14, 15, 16},
		{0, 32, 33, 63},
		{24, 25, 31, 32},
		{60, 61, 63, 64},
		{1, 3, 5, 57, 59, 60, 61, 62, 63, 64},
	} {
		for _, n := range append(beyond, far...) {
			for _, t := range []dos.Time{first, last, some} {
				*partOf(&t, part) = n
				l = append(l, t)
			}
		}
	}
	for _, month := range []int{4, 6, 9, 11} {
		l = append(l, dos.Time{Year: 2000, Month: month, Day: 31})
	}
	for _, year := range []int{1981, 1982, 1983, 1999, 2001, 2099, 2100, 2101, 2107} {
		l = append(l, dos.Time{Year: year, Month: 2, Day: 29})
	}
	for _, year := range []int{1980, 2000, 2104} {
		l = append(l, dos.Time{Year: year, Month: 2, Day: 30})
	}
	return l
}

// timeOf the library's.
func timeOf(t time.Time) dos.Time {
	return dos.Time{Year: t.Year(), Month: int(t.Month()), Day: t.Day(), Hour: t.Hour(), Minute: t.Minute(), Second: t.Second()}
}

// firstDay of all, the library's.
func firstDay() time.Time { return time.Date(1980, 1, 1, 0, 0, 0, 0, time.UTC) }

// checkAll of a time that may be, which is the library's.
func checkAll(t *testing.T, at time.Time) {
	t.Helper()
	x := timeOf(at)
	if !x.Good() {
		t.Fatal(x, "may not be")
	}
	date := uint64(x.Day + 32*x.Month + 512*(x.Year-1980))
	clock := uint64(x.Second/2 + 32*x.Minute + 2048*x.Hour)
	if d, c, ok := x.Pack(); d != date || c != clock || !ok {
		t.Fatal(x, d, c, ok)
	}
	if y, ok := dos.Unpack(date, clock); y != x || !ok {
		t.Fatal(x, y, ok)
	}
	n := int(at.Sub(firstDay()) / (2 * time.Second))
	if got := x.Number(); got != n {
		t.Fatal(x, got, n)
	}
	if y, ok := dos.Of(n); y != x || !ok {
		t.Fatal(x, y, ok)
	}
	text := at.Format(time.DateTime)
	if got := x.Text(); got != text {
		t.Fatal(x, got, text)
	}
	if y, ok := dos.Parse(text); y != x || !ok {
		t.Fatal(x, y, ok)
	}
	if got := x.Weekday(); got != int(at.Weekday()) {
		t.Fatal(x, got)
	}
	if x.Ahead(x) {
		t.Fatal(x, "ahead of itself")
	}
}

// The chapter's example.
func TestExample(t *testing.T) {
	if date, clock, ok := first.Pack(); date != 33 || clock != 0 || !ok {
		t.Error(date, clock, ok)
	}
	if n := first.Number(); n != 0 {
		t.Error(n)
	}
	if n := first.Weekday(); n != 2 {
		t.Error(n)
	}
	if s := (dos.Time{Year: 1980, Month: 1, Day: 31, Hour: 23, Minute: 59, Second: 58}).Text(); s != "1980-01-31 23:59:58" {
		t.Error(s)
	}
}

// P11.1, P11.2, P11.3: a time of every day, and the edges of each.
func TestEveryDay(t *testing.T) {
	r := rand.New(rand.NewSource(1))
	day := firstDay()
	for range allDays {
		for _, n := range []int{0, perDay - 1, r.Intn(perDay)} {
			checkAll(t, day.Add(time.Duration(n)*2*time.Second))
		}
		day = day.AddDate(0, 0, 1)
	}
	if day.Year() != 2108 || timeOf(day.Add(-2*time.Second)) != last {
		t.Error("not every day", day)
	}
}

// P11.1, P11.2, P11.3: every time of a day.
func TestEveryTime(t *testing.T) {
	for _, day := range []time.Time{firstDay(), time.Date(2000, 2, 29, 0, 0, 0, 0, time.UTC)} {
		for n := range perDay {
			checkAll(t, day.Add(time.Duration(n)*2*time.Second))
		}
	}
}

// P11.1, P11.2, P11.3: times that may not be.
func TestBad(t *testing.T) {
	for _, x := range bad() {
		if x.Good() {
			t.Error(x, "may be")
		}
		if date, clock, ok := x.Pack(); date != 0 || clock != 0 || ok {
			t.Error(x, date, clock, ok)
		}
		if n := x.Number(); n != -1 {
			t.Error(x, n)
		}
		if s := x.Text(); s != "" {
			t.Error(x, s)
		}
		if n := x.Weekday(); n != -1 {
			t.Error(x, n)
		}
		for _, y := range []dos.Time{first, last, x, {}} {
			if x.Ahead(y) || y.Ahead(x) {
				t.Error(x, y, "ahead")
			}
		}
	}
}

// P11.1: a month's days, of any year.
func TestDays(t *testing.T) {
	plain := []int{0, 31, 28, 31, 30, 31, 30, 31, 31, 30, 31, 30, 31}
	for year := -2000; year <= 4000; year++ {
		for month := 1; month <= 12; month++ {
			want := plain[month]
			if month == 2 {
				want = time.Date(year, 3, 0, 0, 0, 0, 0, time.UTC).Day()
			}
			if n := dos.Days(year, month); n != want {
				t.Fatal(year, month, n, want)
			}
		}
		for _, month := range []int{0, -1, 13, 14, -11, math.MinInt, math.MaxInt, 1<<32 + 1} {
			if n := dos.Days(year, month); n != 0 {
				t.Fatal(year, month, n)
			}
		}
	}
	// -2^63 is a multiple of 4, but of no other number that counts.
	for year, want := range map[int]int{math.MinInt: 29, math.MinInt + 1: 28, math.MaxInt: 28, math.MaxInt - 3: 29, 1900: 28, 2000: 29, 2100: 28, 2400: 29, 0: 29, -1: 28, -4: 29, -100: 28, -400: 29} {
		if n := dos.Days(year, 2); n != want {
			t.Error(year, n, want)
		}
	}
}

// P11.1: all numbers of dates and times, and greater ones.
func TestUnpack(t *testing.T) {
	check := func(date, clock uint64, want bool) {
		t.Helper()
		x, ok := dos.Unpack(date, clock)
		if ok != want {
			t.Fatal(date, clock, x, ok)
		}
		if !ok && x != (dos.Time{}) {
			t.Fatal(date, clock, x)
		}
		if d, c, _ := x.Pack(); ok && (d != date || c != clock) {
			t.Fatal(date, clock, x)
		}
	}
	for n := range uint64(1 << 16) {
		day, month, year := int(n%32), int(n/32%16), int(n/512)+1980
		check(n, 0, day >= 1 && day <= dos.Days(year, month))
		check(33, n, n%32 < 30 && n/32%64 < 60 && n/2048 < 24)
		check(0, n, false)
		check(n, 30, false)
	}
	for bit := 16; bit < 64; bit++ {
		check(33+1<<bit, 0, false)
		check(33, 1<<bit, false)
		check(33|1<<bit, 1<<bit, false)
	}
	check(math.MaxUint64, 0, false)
	check(33, math.MaxUint64, false)
	check(math.MaxUint64, math.MaxUint64, false)
}

// P11.2: the numbers of times, and those of none.
func TestOf(t *testing.T) {
	const all = allDays * perDay
	if x, ok := dos.Of(all - 1); x != last || !ok {
		t.Error(x, ok)
	}
	if n := last.Number(); n != all-1 {
		t.Error(n)
	}
	for _, n := range []int{-1, -2, -perDay, all, all + 1, all + perDay, 1 << 40, math.MinInt, math.MinInt + 1, math.MaxInt, math.MaxInt - 1} {
		if x, ok := dos.Of(n); ok || x != (dos.Time{}) {
			t.Error(n, x, ok)
		}
	}
	r := rand.New(rand.NewSource(2))
	for range 100000 {
		n := r.Intn(all)
		if x, ok := dos.Of(n); !ok || x.Number() != n {
			t.Fatal(n, x, ok)
		}
	}
}

// parsed by the document's words: is it the library's text of a time that may be?
func parsed(s string) (dos.Time, bool) {
	at, err := time.Parse(time.DateTime, s)
	x := timeOf(at)
	if err != nil || at.Format(time.DateTime) != s || x.Year < 1980 || x.Year > 2107 || x.Second%2 != 0 {
		return dos.Time{}, false
	}
	return x, true
}

func checkParse(t *testing.T, s string) {
	t.Helper()
	want, may := parsed(s)
	if x, ok := dos.Parse(s); x != want || ok != may {
		t.Fatalf("%q: %v, %v, not %v, %v", s, x, ok, want, may)
	}
}

// P11.3: texts of times, with any byte at any place; shorter ones, longer ones.
func TestParse(t *testing.T) {
	for _, good := range []string{"1980-01-31 23:59:58", "2107-12-31 00:00:00", "2000-02-29 19:08:10"} {
		for i := range len(good) {
			for b := range 256 {
				checkParse(t, good[:i]+string([]byte{byte(b)})+good[i+1:])
				checkParse(t, good[:i]+string([]byte{byte(b)})+good[i:])
			}
			checkParse(t, good[:i])
			checkParse(t, good[i:])
			checkParse(t, good[:i]+good[i+1:])
		}
		for _, more := range []string{"\x00", " ", "0", "Z", ".000", good} {
			checkParse(t, good+more)
			checkParse(t, more+good)
		}
	}
	r := rand.New(rand.NewSource(3))
	for range 100000 {
		s := make([]byte, 19)
		for i := range s {
			s[i] = "0123456789-: "[r.Intn(13)]
		}
		checkParse(t, string(s))
	}
}

// P11.3: texts that look like those of times.
func TestParseWrong(t *testing.T) {
	for _, s := range []string{
		"", "1980-01-31", "23:59:58", "1980-1-31 23:59:58", "1980-01-31T23:59:58", "1980-01-31  3:59:58", "+980-01-31 23:59:58",
		"1980-01-31 23:59:57", "1980-01-31 23:59:60", "1980-01-31 23:60:58", "1980-01-31 24:00:00", "1980-01-32 00:00:00",
		"1980-00-31 00:00:00", "1980-13-01 00:00:00", "1980-01-00 00:00:00", "1979-12-31 23:59:58", "2108-01-01 00:00:00",
		"2100-02-29 00:00:00", "1981-02-29 00:00:00", "2000-02-30 00:00:00", "2000-04-31 00:00:00", "0000-00-00 00:00:00",
		"1980/01/31 23:59:58", "1980-01-31 23.59.58", "197:-01-31 23:59:58", "1980-01-31 23:59:5B", "1980-0/-31 23:59:58",
		"1980-01-2; 23:59:58", strings.Repeat("9", 19), strings.Repeat("\xff", 19), strings.Repeat("1980", 100000),
	} {
		if x, ok := dos.Parse(s); ok || x != (dos.Time{}) {
			t.Errorf("%q: %v, %v", s, x, ok)
		}
	}
}

// P11.3: their order is that of their texts.
func TestAhead(t *testing.T) {
	r := rand.New(rand.NewSource(4))
	anyTime := func() dos.Time {
		x, _ := dos.Of(r.Intn(allDays * perDay))
		return x
	}
	for range 50000 {
		x, y := anyTime(), anyTime()
		for part := range 6 {
			if r.Intn(2) == 0 {
				*partOf(&y, part) = *partOf(&x, part) // so that a part further on tells
			}
		}
		if x.Ahead(y) != (y.Good() && x.Text() < y.Text()) || y.Ahead(x) != (y.Good() && y.Text() < x.Text()) {
			t.Fatal(x, y)
		}
	}
	if !first.Ahead(last) || last.Ahead(first) {
		t.Error("the first and the last one")
	}
}
