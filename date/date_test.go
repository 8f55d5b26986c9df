package date

import (
	"fmt"
	"math"
	"regexp"
	"strings"
	"testing"
	"time"

	"gatepost/trial"
)

const (
	endDay    = 2932896
	endSecond = endDay*86400 + 86399
)

// utc is the library's time of a second, which these tests hold the package against.
func utc(sec int) time.Time { return time.Unix(int64(sec), 0).UTC() }

// layouts are the chapter's three forms, as the library writes them.
var layouts = [3]string{"Mon, 02 Jan 2006 15:04:05 GMT", "Monday, 02-Jan-06 15:04:05 GMT", "Mon Jan _2 15:04:05 2006"}

// someSeconds hands seconds of all years and hours to a function, the edges among them.
func someSeconds(see func(sec int)) {
	for day := range 400 {
		see(day * 86400)
		see((endDay - day) * 86400)
	}
	for sec := 0; sec <= endSecond; sec += 86400*41 + 3600*5 + 60*7 + 11 {
		see(sec)
	}
	for sec := range 86400 {
		see(784080000 + sec)
	}
	for _, sec := range []int{0, 1, 59, 60, 3599, 3600, 86399, 86400, endSecond - 86400, endSecond - 1, endSecond} {
		see(sec)
	}
}

// parses asks for a second; refuses asks that there is none.
func parses(t *testing.T, s string, want int) {
	t.Helper()
	if got, ok := Parse(s); !ok || got != want {
		t.Errorf("Parse(%q) = %d, %v, not %d", s, got, ok, want)
	}
}

func refuses(t *testing.T, s string) {
	t.Helper()
	if got, ok := Parse(s); ok || got != 0 {
		t.Errorf("Parse(%q) = %d, %v", s, got, ok)
	}
}

// P2.1

func TestEveryDay(t *testing.T) {
	for day := range endDay + 1 {
		wantY, wantM, wantD := utc(day * 86400).Date()
		y, m, d := Civil(day)
		if y != wantY || m != int(wantM) || d != wantD {
			t.Fatalf("Civil(%d) = %d, %d, %d", day, y, m, d)
		}
		if got := Days(y, m, d); got != day {
			t.Fatalf("Days(%d, %d, %d) = %d, not %d", y, m, d, got, day)
		}
	}
}

func TestCivilAtTheEnds(t *testing.T) {
	for _, c := range [][4]int{
		{0, 1970, 1, 1}, {1, 1970, 1, 2}, {30, 1970, 1, 31}, {31, 1970, 2, 1}, {364, 1970, 12, 31}, {365, 1971, 1, 1},
		{58, 1970, 2, 28}, {59, 1970, 3, 1}, {789, 1972, 2, 29}, {790, 1972, 3, 1}, {11016, 2000, 2, 29}, {11017, 2000, 3, 1},
		{47540, 2100, 2, 28}, {47541, 2100, 3, 1}, {endDay - 1, 9999, 12, 30}, {endDay, 9999, 12, 31},
	} {
		if y, m, d := Civil(c[0]); y != c[1] || m != c[2] || d != c[3] {
			t.Errorf("Civil(%d) = %d, %d, %d", c[0], y, m, d)
		}
		if got := Days(c[1], c[2], c[3]); got != c[0] {
			t.Errorf("Days(%d, %d, %d) = %d", c[1], c[2], c[3], got)
		}
	}
}

func TestCivilBeyondTheEnds(t *testing.T) {
	for _, day := range []int{-1, -2, -365, -719468, math.MinInt, endDay + 1, endDay + 2, endDay + 366, 1 << 31, 1 << 40, math.MaxInt} {
		if y, m, d := Civil(day); y != 0 || m != 0 || d != 0 {
			t.Errorf("Civil(%d) = %d, %d, %d", day, y, m, d)
		}
	}
}

func TestDaysOfDatesThatAreNone(t *testing.T) {
	for _, c := range [][3]int{
		{1969, 12, 31}, {1969, 1, 1}, {0, 0, 0}, {0, 1, 1}, {-1, 1, 1}, {94, 11, 6}, {10000, 1, 1}, {10000, 12, 31},
		{1970, 0, 1}, {1970, 13, 1}, {1970, -1, 1}, {1970, 1, 0}, {1970, 1, -1}, {1970, 1, 32}, {1970, 4, 31}, {1970, 12, 32},
		{1970, 2, 29}, {1972, 2, 30}, {2000, 2, 30}, {2100, 2, 29}, {2200, 2, 29}, {2400, 2, 30}, {9999, 2, 29}, {9999, 12, 32},
	} {
		if got := Days(c[0], c[1], c[2]); got != -1 {
			t.Errorf("Days(%v) = %d", c, got)
		}
	}
	far := []int{math.MinInt, math.MinInt + 1, math.MinInt32, 1 << 32, 1<<32 + 1, math.MaxInt - 1, math.MaxInt}
	for _, n := range far {
		for _, c := range [][3]int{{n, 1, 1}, {1970, n, 1}, {1970, 1, n}, {n, n, 1}, {1970, n, n}, {n, n, n}} {
			if got := Days(c[0], c[1], c[2]); got != -1 {
				t.Errorf("Days(%v) = %d", c, got)
			}
		}
	}
}

// The library brings a day that is none over into another month: so there is such a day if it stays as it is.
func TestDaysRoundTheMonths(t *testing.T) {
	for _, y := range []int{1968, 1969, 1970, 1971, 1972, 1999, 2000, 2001, 2004, 2096, 2100, 2104, 2400, 9996, 9999, 10000} {
		for m := -2; m <= 15; m++ {
			for d := -2; d <= 34; d++ {
				at := time.Date(y, time.Month(m), d, 0, 0, 0, 0, time.UTC)
				want := -1
				if yy, mm, dd := at.Date(); yy == y && int(mm) == m && dd == d && y >= 1970 && y <= 9999 {
					want = int(at.Unix() / 86400)
				}
				if got := Days(y, m, d); got != want {
					t.Errorf("Days(%d, %d, %d) = %d, not %d", y, m, d, got, want)
				}
			}
		}
	}
}

// P2.2

func TestParseForms(t *testing.T) {
	for _, s := range []string{"Sun, 06 Nov 1994 08:49:37 GMT", "Sunday, 06-Nov-94 08:49:37 GMT", "Sun Nov  6 08:49:37 1994", "Sun Nov 06 08:49:37 1994"} {
		parses(t, s, 784111777)
	}
	someSeconds(func(sec int) {
		at := utc(sec)
		parses(t, at.Format(layouts[0]), sec)
		parses(t, at.Format(layouts[2]), sec)
		if at.Year() < 2070 {
			parses(t, at.Format(layouts[1]), sec)
		}
	})
}

func TestParseEveryNameOfDayAndMonth(t *testing.T) {
	for day := range 800 {
		at := utc(day * 86400)
		for form, layout := range layouts {
			for other := range 7 {
				// the day of a name that is moved by 0 days to 6
				name := utc((day + other) * 86400).Format(strings.FieldsFunc(layout, func(c rune) bool { return c == ',' || c == ' ' })[0])
				s := at.Format(layout)
				s = name + s[strings.IndexAny(s, ", "):]
				if got, ok := Parse(s); ok != (other == 0) || ok && got != day*86400 {
					t.Errorf("form %d: Parse(%q) = %d, %v", form, s, got, ok)
				}
			}
		}
	}
}

func TestParseFirstAndLastDay(t *testing.T) {
	parses(t, "Thu, 01 Jan 1970 00:00:00 GMT", 0)
	parses(t, "Thursday, 01-Jan-70 00:00:00 GMT", 0)
	parses(t, "Thu Jan  1 00:00:00 1970", 0)
	parses(t, "Fri, 02 Jan 1970 00:00:00 GMT", 86400)
	parses(t, "Thu, 30 Dec 9999 23:59:59 GMT", endSecond-86400)
	parses(t, "Fri, 31 Dec 9999 23:59:59 GMT", endSecond)
	parses(t, "Fri Dec 31 23:59:59 9999", endSecond)
	refuses(t, "Wed, 31 Dec 1969 23:59:59 GMT")
	refuses(t, "Wed Dec 31 23:59:59 1969")
	refuses(t, "Sat, 01 Jan 10000 00:00:00 GMT")
	refuses(t, "Sat Jan  1 00:00:00 10000")
	refuses(t, "Sat, 01 Jan 0000 00:00:00 GMT")
	refuses(t, "Mon, 01 Jan 0001 00:00:00 GMT")
}

func TestParseTwentyNinthOfFebruary(t *testing.T) {
	for y := 1970; y <= 9999; y++ {
		leap := y%4 == 0 && (y%100 != 0 || y%400 == 0)
		for _, name := range []string{"Mon", "Tue", "Wed", "Thu", "Fri", "Sat", "Sun"} {
			at := time.Date(y, 2, 29, 0, 0, 0, 0, time.UTC)
			want := leap && name == at.Format("Mon")
			for _, s := range []string{fmt.Sprintf("%s, 29 Feb %d 00:00:00 GMT", name, y), fmt.Sprintf("%s Feb 29 00:00:00 %d", name, y)} {
				if got, ok := Parse(s); ok != want || ok && got != int(at.Unix()) {
					t.Errorf("Parse(%q) = %d, %v", s, got, ok)
				}
			}
		}
	}
	parses(t, "Tuesday, 29-Feb-00 00:00:00 GMT", 951782400)
	refuses(t, "Thursday, 29-Feb-01 00:00:00 GMT")
}

func TestParseYearsOfTwoDigits(t *testing.T) {
	for yy := range 100 {
		meant, other := 2000+yy, 1900+yy
		if yy >= 70 {
			meant, other = other, meant
		}
		at := time.Date(meant, 7, 4, 12, 34, 56, 0, time.UTC)
		parses(t, at.Format(layouts[1]), int(at.Unix()))
		// in a hundred years a day gets another name, so that the other year's is refused
		refuses(t, time.Date(other, 7, 4, 12, 34, 56, 0, time.UTC).Format(layouts[1]))
	}
	parses(t, "Tuesday, 31-Dec-69 23:59:59 GMT", 3155759999)
	parses(t, "Thursday, 01-Jan-70 00:00:00 GMT", 0)
	refuses(t, "Wednesday, 31-Dec-69 23:59:59 GMT") // of 1969
	refuses(t, "Wednesday, 01-Jan-70 00:00:00 GMT") // of 2070
}

func TestParseDaysRoundTheMonths(t *testing.T) {
	for _, c := range []struct {
		y, m, most int
	}{{1994, 1, 31}, {1994, 2, 28}, {1996, 2, 29}, {1994, 4, 30}, {1994, 11, 30}, {1994, 12, 31}} {
		for d := range 100 {
			at := time.Date(c.y, time.Month(c.m), d, 0, 0, 0, 0, time.UTC)
			month := time.Month(c.m).String()[:3]
			for _, s := range []string{
				fmt.Sprintf("%s, %02d %s %d 00:00:00 GMT", at.Format("Mon"), d, month, c.y),
				fmt.Sprintf("%s, %02d-%s-%d 00:00:00 GMT", at.Format("Monday"), d, month, c.y%100),
				fmt.Sprintf("%s %s %02d 00:00:00 %d", at.Format("Mon"), month, d, c.y),
				fmt.Sprintf("%s %s %2d 00:00:00 %d", at.Format("Mon"), month, d, c.y),
			} {
				if got, ok := Parse(s); ok != (d >= 1 && d <= c.most) || ok && got != int(at.Unix()) {
					t.Errorf("Parse(%q) = %d, %v", s, got, ok)
				}
			}
		}
	}
}

func TestParseClock(t *testing.T) {
	const day = 784080000
	forms := []string{"Sun, 06 Nov 1994 %02d:%02d:%02d GMT", "Sunday, 06-Nov-94 %02d:%02d:%02d GMT", "Sun Nov  6 %02d:%02d:%02d 1994"}
	for _, form := range forms {
		for n := range 100 {
			for _, c := range [][3]int{{n, 0, 0}, {0, n, 0}, {0, 0, n}, {n, 59, 60}, {23, n, 59}, {23, 59, n}} {
				s := fmt.Sprintf(form, c[0], c[1], c[2])
				if c[0] > 23 || c[1] > 59 || c[2] > 60 {
					refuses(t, s)
					continue
				}
				parses(t, s, day+c[0]*3600+c[1]*60+min(c[2], 59))
			}
		}
	}
	parses(t, "Fri, 31 Dec 9999 23:59:60 GMT", endSecond)
	parses(t, "Thu, 01 Jan 1970 00:00:60 GMT", 59)
}

func TestParseDayOfOneDigit(t *testing.T) {
	for d := 1; d <= 9; d++ {
		at := time.Date(1994, 11, d, 8, 49, 37, 0, time.UTC)
		for _, ahead := range []string{" ", "\t", "0"} { // a blank is 32 or 9
			parses(t, fmt.Sprintf("%s Nov %s%d 08:49:37 1994", at.Format("Mon"), ahead, d), int(at.Unix()))
		}
		for _, ahead := range []string{"", "  ", "\n", "\x00", "\u00a0", "00", "-", "+", "_"} {
			refuses(t, fmt.Sprintf("%s Nov %s%d 08:49:37 1994", at.Format("Mon"), ahead, d))
		}
		refuses(t, fmt.Sprintf("%s,  %d Nov 1994 08:49:37 GMT", at.Format("Mon"), d))
		refuses(t, fmt.Sprintf("%s, %d Nov 1994 08:49:37 GMT", at.Format("Mon"), d))
		refuses(t, fmt.Sprintf("%s,  %d-Nov-94 08:49:37 GMT", at.Format("Monday"), d))
		refuses(t, fmt.Sprintf("%s, %d-Nov-94 08:49:37 GMT", at.Format("Monday"), d))
	}
	refuses(t, "Mon Oct  0 08:49:37 1994")
	refuses(t, "Mon Oct 00 08:49:37 1994")
	refuses(t, "Sun Nov 6  08:49:37 1994")
}

func TestParseWrong(t *testing.T) {
	for _, s := range []string{
		"", " ", "0", "784111777", "%a", "GMT",
		"Sat, 06 Nov 1994 08:49:37 GMT", "Saturday, 06-Nov-94 08:49:37 GMT", "Sat Nov  6 08:49:37 1994",
		"Sunday, 06 Nov 1994 08:49:37 GMT", "Sun, 06-Nov-94 08:49:37 GMT", "Sunday Nov  6 08:49:37 1994",
		"Sun, 06-Nov-1994 08:49:37 GMT", "Sunday, 06-Nov-1994 08:49:37 GMT", "Sun, 06 Nov 94 08:49:37 GMT", "Sun Nov  6 08:49:37 94",
		"sun, 06 Nov 1994 08:49:37 GMT", "SUN, 06 Nov 1994 08:49:37 GMT", "Sun, 06 nov 1994 08:49:37 GMT", "Sun, 06 NOV 1994 08:49:37 GMT",
		"Sun, 06 Nov 1994 08:49:37 gmt", "Sun, 06 Nov 1994 08:49:37 UTC", "Sun, 06 Nov 1994 08:49:37 +0000", "Sun, 06 Nov 1994 08:49:37",
		"Sun, 06 Nov 1994 08:49:37 ", "Sun, 06 Nov 1994 08:49 GMT", "Sun, 06 Nov 1994 8:49:37 GMT", "Sun, 06 Nov 1994 08:49:37.0 GMT",
		"Sun,06 Nov 1994 08:49:37 GMT", "Sun 06 Nov 1994 08:49:37 GMT", "Sun,\t06 Nov 1994 08:49:37 GMT", "06 Nov 1994 08:49:37 GMT",
		"Sun, 06 November 1994 08:49:37 GMT", "Sun, 06 11 1994 08:49:37 GMT", "Sun Nov  6 08:49:37 1994 GMT", "Sun Nov  6 08:49:37 GMT 1994",
		"Sun, Nov  6 08:49:37 1994", "Sun\tNov  6 08:49:37 1994", "Sun Nov\t 6 08:49:37 1994", "Sun Nov  6\t08:49:37 1994", "Sun Nov  6 08:49:37\t1994",
		"Sun, -6 Nov 1994 08:49:37 GMT", "Sun, +6 Nov 1994 08:49:37 GMT", "Sun, 06 Nov +994 08:49:37 GMT", "Sun, 06 Nov 1994 +8:49:37 GMT",
		"Sun, 06 Nov 1994 08:49:-1 GMT", "Sunday, 06-Nov--4 08:49:37 GMT", "Sun, 0\u0666 Nov 1994 08:49:37 GMT",
		"1994-11-06T08:49:37Z", strings.Repeat("Sun, ", 1000), strings.Repeat("9", 1000),
	} {
		refuses(t, s)
	}
}

// plainParse holds a text against patterns of the three forms, and asks the library for the day.
func plainParse(s string) (int, bool) {
	const clock = `(?P<h>[01][0-9]|2[0-3]):(?P<i>[0-5][0-9]):(?P<s>[0-5][0-9]|60)`
	const short = `(?P<w>Mon|Tue|Wed|Thu|Fri|Sat|Sun)`
	const month = `(?P<m>Jan|Feb|Mar|Apr|May|Jun|Jul|Aug|Sep|Oct|Nov|Dec)`
	for _, form := range []string{
		short + `, (?P<d>[0-9]{2}) ` + month + ` (?P<y>[0-9]{4}) ` + clock + ` GMT`,
		`(?P<w>Monday|Tuesday|Wednesday|Thursday|Friday|Saturday|Sunday), (?P<d>[0-9]{2})-` + month + `-(?P<y>[0-9]{2}) ` + clock + ` GMT`,
		short + ` ` + month + ` (?P<d>[0-9]{2}|[ \t][0-9]) ` + clock + ` (?P<y>[0-9]{4})`,
	} {
		if sec, ok := plainForm(pattern(form), s); ok {
			return sec, true
		}
	}
	return 0, false
}

var patterns = map[string]*regexp.Regexp{}

// pattern keeps what was compiled, as thousands of texts ask for the same ones.
func pattern(form string) *regexp.Regexp {
	if patterns[form] == nil {
		patterns[form] = regexp.MustCompile(`\A(?:` + form + `)\z`)
	}
	return patterns[form]
}

func plainForm(form *regexp.Regexp, s string) (int, bool) {
	part := form.FindStringSubmatch(s)
	if part == nil {
		return 0, false
	}
	text := func(name string) string { return part[form.SubexpIndex(name)] }
	year := text("y")
	if len(year) == 2 {
		year = map[bool]string{true: "19", false: "20"}[year >= "70"] + year
	}
	day := strings.NewReplacer(" ", "0", "\t", "0").Replace(text("d"))
	at, err := time.Parse("2006 Jan 02 15:04:05", year+" "+text("m")+" "+day+" "+text("h")+":"+text("i")+":"+strings.Replace(text("s"), "60", "59", 1))
	if err != nil || year < "1970" || at.Weekday().String()[:3] != text("w")[:3] {
		return 0, false
	}
	return int(at.Unix()), true
}

// Each text with one byte more, one less, or another one, is held against the patterns.
func TestParseByteByByte(t *testing.T) {
	check := func(s string) {
		got, ok := Parse(s)
		if want, wantOK := plainParse(s); got != want || ok != wantOK {
			t.Errorf("Parse(%q) = %d, %v, not %d, %v", s, got, ok, want, wantOK)
		}
	}
	for _, s := range []string{
		"Sun, 06 Nov 1994 08:49:37 GMT", "Sunday, 06-Nov-94 08:49:37 GMT", "Sun Nov  6 08:49:37 1994", "Wednesday, 31-Dec-03 23:59:60 GMT",
		"Tue Feb 29 00:00:00 2000", "Fri, 31 Dec 9999 23:59:59 GMT", "Thu, 01 Jan 1970 00:00:00 GMT", "Thu Jan  1 00:00:00 1970",
	} {
		if _, ok := Parse(s); !ok {
			t.Errorf("Parse(%q) is false", s)
		}
		for i := range len(s) + 1 {
			check(s[:i])
			check(s[i:])
		}
		trial.Changed(s, check)
	}
}

// P2.3

func TestFormat(t *testing.T) {
	for _, c := range []struct {
		sec  int
		want string
	}{
		{784111777, "Sun, 06 Nov 1994 08:49:37 GMT"}, {0, "Thu, 01 Jan 1970 00:00:00 GMT"}, {1, "Thu, 01 Jan 1970 00:00:01 GMT"},
		{86399, "Thu, 01 Jan 1970 23:59:59 GMT"}, {86400, "Fri, 02 Jan 1970 00:00:00 GMT"}, {951827696, "Tue, 29 Feb 2000 12:34:56 GMT"},
		{endSecond, "Fri, 31 Dec 9999 23:59:59 GMT"}, {endSecond - 86399, "Fri, 31 Dec 9999 00:00:00 GMT"},
	} {
		if got := Format(c.sec); got != c.want {
			t.Errorf("Format(%d) = %q", c.sec, got)
		}
	}
	someSeconds(func(sec int) {
		if got := Format(sec); got != utc(sec).Format(layouts[0]) {
			t.Errorf("Format(%d) = %q", sec, got)
		}
	})
}

func TestFormatBeyondTheEnds(t *testing.T) {
	for _, sec := range []int{-1, -59, -86399, -86400, -86401, math.MinInt32, math.MinInt, endSecond + 1, endSecond + 2, endSecond + 86400, 1 << 40, math.MaxInt - 1, math.MaxInt} {
		if got := Format(sec); got != "Thu, 01 Jan 1970 00:00:00 GMT" {
			t.Errorf("Format(%d) = %q", sec, got)
		}
	}
}

// P2.4

func TestFormattedIsParsedToTheSecond(t *testing.T) {
	someSeconds(func(sec int) { parses(t, Format(sec), sec) })
	for day := 0; day <= endDay; day += 13 {
		sec := day*86400 + day%86400
		parses(t, Format(sec), sec)
	}
}

func TestDatesGoOverIntoDays(t *testing.T) {
	next := 0
	for y := 1970; y <= 9999; y++ {
		for m := 1; m <= 12; m++ {
			for d := 1; d <= 31; d++ {
				day := Days(y, m, d)
				if day < 0 {
					continue
				}
				if day != next {
					t.Fatalf("Days(%d, %d, %d) = %d, not %d", y, m, d, day, next)
				}
				if yy, mm, dd := Civil(day); yy != y || mm != m || dd != d {
					t.Fatalf("Civil(%d) = %d, %d, %d", day, yy, mm, dd)
				}
				next++
			}
		}
	}
	if next != endDay+1 {
		t.Errorf("%d days in all", next)
	}
}
