package ranges

import (
	"fmt"
	"math"
	"math/big"
	"math/rand"
	"regexp"
	"slices"
	"strconv"
	"strings"
	"sync"
	"testing"

	"gatepost/api"
	"gatepost/trial"
)

const (
	low  = math.MinInt
	high = math.MaxInt
	body = 1 << 20
	late = 1 << 40
)

// of makes wants of their ends, two by two.
func of(ends ...int) []Want {
	var l []Want
	for i := 0; i < len(ends); i += 2 {
		l = append(l, Want{From: ends[i], To: ends[i+1]})
	}
	return l
}

func at(from, to int) api.Span { return api.Span{From: from, To: to} }

// edges are ints at which what is told changes, and the ends of their range.
var edges = []int{low, low + 1, -late, -body, -3, -2, -1, 0, 1, 2, 3, 9, 10, 11, body - 2, body - 1, body, body + 1, body + 2, 1 << 31, late - 1, late, late + 1, late + 2, high - 1, high}

// plainNumber is a plain reading of digits, of whatever size: a greater number counts as most.
func plainNumber(digits string, most int) int {
	n, _ := new(big.Int).SetString(digits, 10)
	if n.Cmp(big.NewInt(int64(most))) > 0 {
		return most
	}
	return int(n.Int64())
}

// The three forms of a range that is wanted.
var (
	bothForm = regexp.MustCompile("^([0-9]+)-([0-9]+)$")
	fromForm = regexp.MustCompile("^([0-9]+)-$")
	lastForm = regexp.MustCompile("^-([0-9]+)$")
)

// plainWant is a plain reading of an element.
func plainWant(s string) (Want, bool) {
	if p := bothForm.FindStringSubmatch(s); p != nil {
		from, to := plainNumber(p[1], late), plainNumber(p[2], late)
		return Want{From: from, To: to}, from <= to
	}
	if p := fromForm.FindStringSubmatch(s); p != nil {
		return Want{From: plainNumber(p[1], late), To: -1}, true
	}
	if p := lastForm.FindStringSubmatch(s); p != nil {
		return Want{From: -1, To: plainNumber(p[1], late)}, true
	}
	return Want{}, false
}

// plainParse is a plain reading of P14.1. What has a quote is none: a quoted text that ends is in an element that is none.
func plainParse(s string) ([]Want, bool) {
	if len(s) < 6 || trial.Small(s[:6]) != "bytes=" || strings.Contains(s, `"`) {
		return nil, false
	}
	var l []Want
	for e := range strings.SplitSeq(s[6:], ",") {
		e = strings.Trim(e, " \t")
		if e == "" {
			continue
		}
		w, ok := plainWant(e)
		if !ok {
			return nil, false
		}
		l = append(l, w)
	}
	if len(l) < 1 || len(l) > 32 {
		return nil, false
	}
	return l, true
}

// plainTold is a plain reading of which wants Parse tells.
func plainTold(w Want) bool {
	number := func(n int) bool { return n >= 0 && n <= late }
	return number(w.From) && number(w.To) && w.From <= w.To || number(w.From) && w.To == -1 || w.From == -1 && number(w.To)
}

// plainResolve is a plain reading of P14.2.
func plainResolve(w Want, long int) (api.Span, bool) {
	if long < 0 || long > body || !plainTold(w) {
		return api.Span{}, false
	}
	if w.From == -1 {
		if w.To == 0 || long == 0 {
			return api.Span{}, false
		}
		if w.To > long {
			return at(0, long), true
		}
		return at(long-w.To, long), true
	}
	if w.From >= long {
		return api.Span{}, false
	}
	if w.To == -1 || w.To >= long {
		return at(w.From, long), true
	}
	return at(w.From, w.To+1), true
}

// plainPick is a plain reading of P14.3.
func plainPick(s string, long int) (api.Span, int) {
	l, ok := plainParse(s)
	if !ok || long < 0 || long > body {
		return api.Span{}, Whole
	}
	n, one := 0, api.Span{}
	for _, w := range l {
		if found, ok := plainResolve(w, long); ok {
			n, one = n+1, found
		}
	}
	if n > 1 {
		return api.Span{}, Whole
	}
	return one, []int{Refused, Partial}[n]
}

// plainContent is a plain reading of P14.4's first part.
func plainContent(s api.Span, long int) (string, api.Errno) {
	wrong := long < -1 || long > body || s.From < 0 || s.From > s.To || s.To > body
	wrong = wrong || long != -1 && s.To > long
	wrong = wrong || s.From == s.To && long == -1
	switch {
	case wrong:
		return "", 2
	case s.From == s.To:
		return fmt.Sprintf("bytes */%d", long), 0
	case long == -1:
		return fmt.Sprintf("bytes %d-%d/*", s.From, s.To-1), 0
	}
	return fmt.Sprintf("bytes %d-%d/%d", s.From, s.To-1, long), 0
}

// contentForm is a Content-Range text.
var contentForm = regexp.MustCompile(`^bytes (?:(\*)|([0-9]+)-([0-9]+))/(?:(\*)|([0-9]+))$`)

// plainRead is a plain reading of P14.4's second part.
func plainRead(s string) (api.Span, int, bool) {
	p := contentForm.FindStringSubmatch(s)
	if p == nil {
		return api.Span{}, 0, false
	}
	span, long := api.Span{}, -1
	if p[4] == "" {
		long = plainNumber(p[5], body+1)
	}
	if p[1] == "" {
		span = at(plainNumber(p[2], body+1), plainNumber(p[3], body+1)+1)
	}
	_, e := plainContent(span, long)
	if e != 0 || p[1] == "" && span.From >= span.To {
		return api.Span{}, 0, false
	}
	return span, long, true
}

func parses(t *testing.T, s string, want []Want, wantOk bool) {
	t.Helper()
	if l, ok := Parse(s); !slices.Equal(l, want) || ok != wantOk {
		t.Errorf("Parse(%.200q) = %v, %v, not %v, %v", s, l, ok, want, wantOk)
	}
}

// asParsed holds a text against the plain reading.
func asParsed(t *testing.T, s string) {
	t.Helper()
	want, ok := plainParse(s)
	parses(t, s, want, ok)
}

func resolves(t *testing.T, w Want, long int, want api.Span, wantOk bool) {
	t.Helper()
	if s, ok := Resolve(w, long); s != want || ok != wantOk {
		t.Errorf("Resolve(%v, %d) = %v, %v, not %v, %v", w, long, s, ok, want, wantOk)
	}
}

func picks(t *testing.T, s string, long int, want api.Span, wantAnswer int) {
	t.Helper()
	if one, answer := Pick(s, long); one != want || answer != wantAnswer {
		t.Errorf("Pick(%.200q, %d) = %v, %d, not %v, %d", s, long, one, answer, want, wantAnswer)
	}
}

// asPicked holds a text and a length against the plain reading.
func asPicked(t *testing.T, s string, long int) {
	t.Helper()
	want, answer := plainPick(s, long)
	picks(t, s, long, want, answer)
}

func tells(t *testing.T, s api.Span, long int, want string, wantError api.Errno) {
	t.Helper()
	if text, e := Content(s, long); text != want || e != wantError {
		t.Errorf("Content(%v, %d) = %q, %d, not %q, %d", s, long, text, e, want, wantError)
	}
}

func reads(t *testing.T, s string, want api.Span, wantLong int, wantOk bool) {
	t.Helper()
	if span, long, ok := Read(s); span != want || long != wantLong || ok != wantOk {
		t.Errorf("Read(%.200q) = %v, %d, %v, not %v, %d, %v", s, span, long, ok, want, wantLong, wantOk)
	}
}

// asRead holds a text against the plain reading.
func asRead(t *testing.T, s string) {
	t.Helper()
	want, long, ok := plainRead(s)
	reads(t, s, want, long, ok)
}

func TestExamples(t *testing.T) {
	picks(t, "bytes=0-1", 10, at(0, 2), Partial)
	picks(t, "bytes=-3", 10, at(7, 10), Partial)
	picks(t, "bytes=10-", 10, api.Span{}, Refused)
	if Whole != 0 || Partial != 1 || Refused != 2 {
		t.Error(Whole, Partial, Refused)
	}
}

// P14.1: the texts of Range.

func TestParseOfUnits(t *testing.T) {
	for bits := range 1 << 5 {
		unit := []byte("bytes")
		for i := range unit {
			if bits>>i&1 == 1 {
				unit[i] -= 32
			}
		}
		parses(t, string(unit)+"=0-1", of(0, 1), true)
	}
	for n := range len("bytes=0-") {
		parses(t, "bytes=0-"[:n], nil, false)
		parses(t, "BYTES=0-"[:n], nil, false)
	}
	for _, s := range []string{
		" bytes=0-1", "\tbytes=0-1", "b ytes=0-1", "bytes =0-1", "bytes\t=0-1", "\x00bytes=0-1", ",bytes=0-1", "=0-1", "0-1", "-1", "bytes0-1", "bytes:0-1", "bytes 0-1", "bytes==0-1", "bytes=bytes=0-1", "bytes=0-1,bytes=0-1",
		"byte=0-1", "bytess=0-1", "bits=0-1", "items=0-1", "none=0-1", "xbytes=0-1", "seconds=0-1", "ytes=0-1", "BYTE=0-1", "byt\xe5s=0-1", "\xe2ytes=0-1", "byte\u017f=0-1", "bytes\xbd0-1", "bytes\x1d0-1",
	} {
		parses(t, s, nil, false)
	}
}

func TestParse(t *testing.T) {
	for _, c := range []struct {
		s    string
		want []Want
	}{
		{"0-0", of(0, 0)}, {"0-1", of(0, 1)}, {"1-1", of(1, 1)}, {"5-9", of(5, 9)}, {"9-10", of(9, 10)}, {"0-1048576", of(0, body)}, {"123-4567", of(123, 4567)},
		{"0-", of(0, -1)}, {"1-", of(1, -1)}, {"77-", of(77, -1)}, {"-0", of(-1, 0)}, {"-1", of(-1, 1)}, {"-77", of(-1, 77)},
		{"00-01", of(0, 1)}, {"0012-0012", of(12, 12)}, {"9-010", of(9, 10)}, {"010-9999", of(10, 9999)}, {"007-", of(7, -1)}, {"-007", of(-1, 7)}, {"000-", of(0, -1)}, {"-000", of(-1, 0)}, {"00000000000000000000000000000012-13", of(12, 13)},
		{" 0-1", of(0, 1)}, {"0-1 ", of(0, 1)}, {"\t0-1\t", of(0, 1)}, {" \t -5 \t", of(-1, 5)}, {"  5-", of(5, -1)},
		{"0-1,2-3", of(0, 1, 2, 3)}, {"0-1 , 2-3", of(0, 1, 2, 3)}, {"0-1\t,\t2-3", of(0, 1, 2, 3)}, {" 0-1,\t 2-, -3 ", of(0, 1, 2, -1, -1, 3)}, {"9-9,0-0", of(9, 9, 0, 0)}, {"0-1,0-1", of(0, 1, 0, 1)}, {"0-9,2-3,-1,-1", of(0, 9, 2, 3, -1, 1, -1, 1)},
		{",0-1", of(0, 1)}, {"0-1,", of(0, 1)}, {",,0-1,,", of(0, 1)}, {" , ,\t,0-1 , , 5-\t,", of(0, 1, 5, -1)}, {"0-1,,2-3", of(0, 1, 2, 3)},
	} {
		parses(t, "bytes="+c.s, c.want, true)
		parses(t, "Bytes="+c.s, c.want, true)
	}
}

func TestParseOfNone(t *testing.T) {
	for _, s := range []string{
		"", " ", "\t", ",", ",,", " , ,\t", "-", "--", "---", "0", "5", "00", "*", "0-*", "*-0", "*/5", "a", "0-a", "a-0", "a-", "-a", "0x1-0x2", "1e1-", "0-1a", "0a-1", "0-1;", "0-1;q=1", "0-1/2", "0_0-1", "0.0-1", "=0-1", "0=1", "0:1", "0+1", "0~1",
		"1-0", "9-8", "10-9", "010-9", "2-01", "1048576-0", "1-00", "100-99",
		"0--", "--0", "0--1", "-0-", "-0-1", "-0-0", "0-1-", "0-1-2", "-1-", "--5", "5--", "-5-", "1-2-3", "0-1--", "- 5", "-5 -", "+0-1", "0-+1", "+5-", "-+5", "0-−1", "0−1", "0–1", "٣-٤", "0-\uff11", "-\u00b2",
		"0 -1", "0- 1", "0 - 1", "0\t-1", "0-\t1", "5 -", "- 5", "-\t5", "0 0-1", "0-1 0", "0-1 2-3", "0-1;2-3", "0-1\n", "\r0-1", "\x00", "0-1\x00", "\x0b0-1", "0-1\xa0", "0-\xff", "\xff",
		`"`, `""`, `"0-1"`, `"0"-1`, `0-"1"`, `0-1"`, `"0-1`, `0-1,"`, `0-1,""`, `"",0-1`, `0-1,"a,b"`, `0-1,"2-3"`, `"0-1,2-3"`, `0-1,"\"`, `0-1,"\",2-3"`, `\0-1`, `0-1\`, "'0-1'",
	} {
		parses(t, "bytes="+s, nil, false)
		parses(t, "BYTES="+s, nil, false)
	}
}

// TestParseOfGreatNumbers: a number above MaxTime counts as MaxTime, on either side.
func TestParseOfGreatNumbers(t *testing.T) {
	most := strconv.Itoa(late)
	for _, digits := range []string{"1099511627776", "1099511627777", "1099511627780", "1099511627786", "2000000000000", "9223372036854775807", "9223372036854775808", "18446744073709551615", "18446744073709551616", "18446744073709551617", "01099511627776", "99999999999999999999999999", "1" + strings.Repeat("0", 1<<16), strings.Repeat("9", 1<<16), strings.Repeat("0", 1<<16) + "1099511627777"} {
		parses(t, "bytes="+digits+"-", of(late, -1), true)
		parses(t, "bytes=-"+digits, of(-1, late), true)
		parses(t, "bytes=0-"+digits, of(0, late), true)
		parses(t, "bytes=1099511627775-"+digits, of(late-1, late), true)
		parses(t, "bytes="+digits+"-"+digits, of(late, late), true)
		parses(t, "bytes="+digits+"-"+most, of(late, late), true)
		parses(t, "bytes="+most+"-"+digits, of(late, late), true)
		parses(t, "bytes="+digits+"-1099511627775", nil, false)
		parses(t, "bytes="+digits+"-0", nil, false)
		parses(t, "bytes="+digits+"-1,"+digits+"-", nil, false)
	}
	parses(t, "bytes=1099511627775-1099511627775,1099511627775-,-1099511627775", of(late-1, late-1, late-1, -1, -1, late-1), true)
	parses(t, "bytes=1099511627775-1099511627774", nil, false)
	parses(t, "bytes="+strings.Repeat("0", 1<<16)+"5-"+strings.Repeat("0", 1<<17)+"6", of(5, 6), true)
}

func TestParseOfManyElements(t *testing.T) {
	for _, n := range []int{1, 2, 3, 31, 32, 33, 34, 64, 100, 1 << 16} {
		for _, e := range []struct {
			s string
			w Want
		}{{"0-1", Want{0, 1}}, {"5-", Want{5, -1}}, {"-7", Want{-1, 7}}} {
			want := slices.Repeat([]Want{e.w}, n)
			if n > 32 {
				want = nil
			}
			all := strings.Repeat(","+e.s, n)
			parses(t, "bytes="+all, want, n <= 32)
			parses(t, "bytes="+all[1:], want, n <= 32)
			parses(t, "bytes="+strings.ReplaceAll(all, ",", " ,, \t,"), want, n <= 32)
			parses(t, "bytes="+all+strings.Repeat(", ", 100), want, n <= 32)
			for _, wrong := range []string{"-", "5", "1-0", "a", `""`, `"`} {
				parses(t, "bytes="+all+","+wrong, nil, false)
				parses(t, "bytes="+wrong+all, nil, false)
			}
		}
	}
	parses(t, "bytes="+strings.Repeat(",", 1<<20)+"0-1", of(0, 1), true)
	parses(t, "bytes="+strings.Repeat(" ", 1<<20)+"0-1"+strings.Repeat("\t", 1<<20), of(0, 1), true)
	parses(t, "bytes="+strings.Repeat(", ", 1<<20), nil, false)
	parses(t, strings.Repeat("bytes=", 1<<16), nil, false)
	parses(t, "bytes="+strings.Repeat("-", 1<<20), nil, false)
}

// TestParseOfOneWrong puts one wrong element at each place among right ones.
func TestParseOfOneWrong(t *testing.T) {
	right := []string{"0-1", "5-", "-7", "3-3", "0-99"}
	for i := range len(right) + 1 {
		for _, wrong := range []string{"-", "5", "1-0", "a-b", "0--1", "0- 1", `"0-1"`, `"`, "*", "--1"} {
			parses(t, "bytes="+strings.Join(slices.Insert(slices.Clone(right), i, wrong), ","), nil, false)
		}
		parses(t, "bytes="+strings.Join(slices.Insert(slices.Clone(right), i, ""), ","), of(0, 1, 5, -1, -1, 7, 3, 3, 0, 99), true)
	}
}

func TestParseOfEachChange(t *testing.T) {
	for _, s := range []string{"bytes=0-1", "BYTES=5-", "bytes=-7", "bytes=10-12, 3-,-4", "bytes=", "bytes=1-0", "bytes=12-12", "bytes=1099511627776-1099511627776"} {
		trial.Changed(s, func(s string) { asParsed(t, s) })
	}
}

func TestParseOfEachText(t *testing.T) {
	trial.Texts([]string{"0", "1", "2", "-", ",", " ", "\t", `"`}, 6, func(s string) { asParsed(t, "bytes="+s) })
	trial.Texts([]string{"bytes", "=", "Bytes=", "0-1", "5-", ",", " ", "-"}, 5, func(s string) { asParsed(t, s) })
}

// TestParseOfEachNumber holds numbers at the edges, two by two, against the plain reading.
func TestParseOfEachNumber(t *testing.T) {
	for _, from := range edges {
		for _, to := range edges {
			asParsed(t, fmt.Sprintf("bytes=%d-%d", from, to))
			asParsed(t, fmt.Sprintf("bytes=%d-,-%d", from, to))
			asParsed(t, fmt.Sprintf("bytes=0%d-00%d", from, to))
		}
	}
}

// P14.2: the spans of ranges.

func TestResolve(t *testing.T) {
	for _, c := range []struct {
		w    Want
		long int
		want api.Span
	}{
		{Want{0, 0}, 1, at(0, 1)}, {Want{0, 1}, 1, at(0, 1)}, {Want{0, 5}, 1, at(0, 1)}, {Want{0, late}, 1, at(0, 1)}, {Want{0, -1}, 1, at(0, 1)}, {Want{-1, 1}, 1, at(0, 1)}, {Want{-1, 2}, 1, at(0, 1)}, {Want{-1, late}, 1, at(0, 1)},
		{Want{0, 1}, 10, at(0, 2)}, {Want{3, 3}, 10, at(3, 4)}, {Want{3, 7}, 10, at(3, 8)}, {Want{3, 8}, 10, at(3, 9)}, {Want{3, 9}, 10, at(3, 10)}, {Want{3, 10}, 10, at(3, 10)}, {Want{3, 11}, 10, at(3, 10)}, {Want{3, late}, 10, at(3, 10)}, {Want{3, -1}, 10, at(3, 10)},
		{Want{9, 9}, 10, at(9, 10)}, {Want{9, 10}, 10, at(9, 10)}, {Want{9, -1}, 10, at(9, 10)}, {Want{0, -1}, 10, at(0, 10)}, {Want{0, 9}, 10, at(0, 10)}, {Want{0, 8}, 10, at(0, 9)},
		{Want{-1, 1}, 10, at(9, 10)}, {Want{-1, 3}, 10, at(7, 10)}, {Want{-1, 9}, 10, at(1, 10)}, {Want{-1, 10}, 10, at(0, 10)}, {Want{-1, 11}, 10, at(0, 10)}, {Want{-1, late}, 10, at(0, 10)},
		{Want{0, 0}, body, at(0, 1)}, {Want{0, -1}, body, at(0, body)}, {Want{0, body - 2}, body, at(0, body-1)}, {Want{0, body - 1}, body, at(0, body)}, {Want{0, body}, body, at(0, body)}, {Want{0, late}, body, at(0, body)}, {Want{body - 1, body - 1}, body, at(body-1, body)}, {Want{body - 1, -1}, body, at(body-1, body)}, {Want{body - 1, late}, body, at(body-1, body)},
		{Want{-1, 1}, body, at(body-1, body)}, {Want{-1, body - 1}, body, at(1, body)}, {Want{-1, body}, body, at(0, body)}, {Want{-1, body + 1}, body, at(0, body)}, {Want{-1, late}, body, at(0, body)}, {Want{-1, 5}, body - 1, at(body-6, body-1)},
	} {
		resolves(t, c.w, c.long, c.want, true)
	}
}

func TestResolveOfNone(t *testing.T) {
	for _, c := range []struct {
		w    Want
		long int
	}{
		{Want{0, 0}, 0}, {Want{0, -1}, 0}, {Want{0, 5}, 0}, {Want{5, 5}, 0}, {Want{-1, 0}, 0}, {Want{-1, 1}, 0}, {Want{-1, late}, 0}, {Want{late, late}, 0},
		{Want{-1, 0}, 1}, {Want{-1, 0}, 10}, {Want{-1, 0}, body},
		{Want{1, 1}, 1}, {Want{1, -1}, 1}, {Want{1, late}, 1}, {Want{10, 10}, 10}, {Want{10, -1}, 10}, {Want{10, 99}, 10}, {Want{11, 11}, 10}, {Want{11, -1}, 10}, {Want{late, -1}, 10}, {Want{late, late}, 10}, {Want{body, -1}, body}, {Want{body, body}, body}, {Want{body + 1, late}, body}, {Want{late, late}, body}, {Want{late, -1}, body},
	} {
		resolves(t, c.w, c.long, api.Span{}, false)
	}
}

// TestResolveOfLengths asks for what is there in any body, of lengths that no body has.
func TestResolveOfLengths(t *testing.T) {
	for _, w := range of(0, 0, 0, -1, -1, 1, 0, late, -1, late, 5, 9) {
		for _, long := range []int{low, low + 1, -body, -2, -1, body + 1, body + 2, 1 << 31, late, high - 1, high} {
			resolves(t, w, long, api.Span{}, false)
		}
	}
}

// TestResolveOfNoWant asks for wants that Parse tells none of, in bodies of which all could be had.
func TestResolveOfNoWant(t *testing.T) {
	for _, w := range of(
		-2, 5, -2, -1, -2, 0, -3, 5, low, 5, low, -1, low, 0, low, high, -late, 5,
		0, -2, 5, -2, 0, -3, 5, low, -1, -2, -1, low, -2, -2, low, low, -late, -late,
		-1, -1,
		1, 0, 5, 4, 9, 0, body, 0, late, late-1, late, 0, late+1, late,
		late+1, -1, late+1, late+1, high, -1, high, high, 0, late+1, 5, late+1, 0, high, -1, late+1, -1, high, high, 0, high, low,
		-2, late+1, late+1, -2, high, late+1, late+2, late+1,
	) {
		for _, long := range []int{0, 1, 10, body - 1, body, low, -1, body + 1, high} {
			resolves(t, w, long, api.Span{}, false)
		}
	}
}

// TestResolveOfEachEdge holds each mixture of edges against the plain reading.
func TestResolveOfEachEdge(t *testing.T) {
	for _, from := range edges {
		for _, to := range edges {
			for _, long := range edges {
				w := Want{From: from, To: to}
				want, ok := plainResolve(w, long)
				resolves(t, w, long, want, ok)
			}
		}
	}
}

// TestResolveOfEachPlace asks of each place of short bodies whether a range has it.
func TestResolveOfEachPlace(t *testing.T) {
	for long := range 12 {
		for from := -1; from < 14; from++ {
			for to := -1; to < 14; to++ {
				w := Want{From: from, To: to}
				got, ok := Resolve(w, long)
				n := 0
				for p := range long {
					in := from <= p && (p <= to || to == -1)
					if from == -1 {
						in = long-p <= to
					}
					in = in && plainTold(w)
					if in != (got.From <= p && p < got.To) {
						t.Errorf("Resolve(%v, %d) = %v: place %d", w, long, got, p)
					}
					if in {
						n++
					}
				}
				if ok != (n > 0) || got.To-got.From != n {
					t.Errorf("Resolve(%v, %d) = %v, %v: %d places", w, long, got, ok, n)
				}
			}
		}
	}
}

// P14.3: what a Range text is answered with.

func TestPick(t *testing.T) {
	for _, c := range []struct {
		s      string
		long   int
		want   api.Span
		answer int
	}{
		{"bytes=0-0", 1, at(0, 1), Partial}, {"bytes=0-", 10, at(0, 10), Partial}, {"bytes=0-9", 10, at(0, 10), Partial}, {"bytes=0-99", 10, at(0, 10), Partial}, {"bytes=9-", 10, at(9, 10), Partial}, {"bytes=-1", 10, at(9, 10), Partial}, {"bytes=-99", 10, at(0, 10), Partial}, {"BYTES= 2-3 ,", 10, at(2, 4), Partial}, {"bytes=1048575-", body, at(body-1, body), Partial}, {"bytes=-1099511627777", body, at(0, body), Partial},
		{"bytes=10-", 10, api.Span{}, Refused}, {"bytes=10-10", 10, api.Span{}, Refused}, {"bytes=11-12", 10, api.Span{}, Refused}, {"bytes=-0", 10, api.Span{}, Refused}, {"bytes=0-0", 0, api.Span{}, Refused}, {"bytes=0-", 0, api.Span{}, Refused}, {"bytes=-1", 0, api.Span{}, Refused}, {"bytes=-0", 0, api.Span{}, Refused}, {"bytes=1048576-", body, api.Span{}, Refused}, {"bytes=1099511627777-", body, api.Span{}, Refused},
		{"bytes=0-1,3-4", 10, api.Span{}, Whole}, {"bytes=0-1,0-1", 10, api.Span{}, Whole}, {"bytes=0-1,1-2", 10, api.Span{}, Whole}, {"bytes=0-1,2-", 10, api.Span{}, Whole}, {"bytes=0-,-1", 10, api.Span{}, Whole}, {"bytes=-1,-1", 10, api.Span{}, Whole}, {"bytes=0-,0-,0-", 10, api.Span{}, Whole}, {"bytes=0-1,3-4,10-", 10, api.Span{}, Whole}, {"bytes=10-,0-1,-0,3-4", 10, api.Span{}, Whole},
		{"bytes=0-1,10-", 10, at(0, 2), Partial}, {"bytes=10-,0-1", 10, at(0, 2), Partial}, {"bytes=-0,0-1", 10, at(0, 2), Partial}, {"bytes=0-1,-0", 10, at(0, 2), Partial}, {"bytes=10-11,-0,5-7,99-", 10, at(5, 8), Partial}, {"bytes=10-,10-,-3", 10, at(7, 10), Partial},
		{"bytes=10-,11-", 10, api.Span{}, Refused}, {"bytes=10-,10-", 10, api.Span{}, Refused}, {"bytes=-0,-0", 10, api.Span{}, Refused}, {"bytes=10-,-0,11-12", 10, api.Span{}, Refused}, {"bytes=0-,-5", 0, api.Span{}, Refused}, {"bytes=0-0,0-0", 0, api.Span{}, Refused},
		{"", 10, api.Span{}, Whole}, {"bytes=", 10, api.Span{}, Whole}, {"bytes=,", 10, api.Span{}, Whole}, {"bytes=-", 10, api.Span{}, Whole}, {"bytes=1-0", 10, api.Span{}, Whole}, {"items=0-1", 10, api.Span{}, Whole}, {" bytes=0-1", 10, api.Span{}, Whole}, {"bytes=0-1,x", 10, api.Span{}, Whole}, {`bytes=0-1,"`, 10, api.Span{}, Whole}, {"bytes=10-,x", 10, api.Span{}, Whole}, {"bytes=10-,9-8", 10, api.Span{}, Whole}, {"0-1", 10, api.Span{}, Whole}, {"bytes 0-1/10", 10, api.Span{}, Whole}, {"x", 0, api.Span{}, Whole}, {"", 0, api.Span{}, Whole},
	} {
		picks(t, c.s, c.long, c.want, c.answer)
	}
}

func TestPickOfLengths(t *testing.T) {
	for _, s := range []string{"bytes=0-1", "bytes=-3", "bytes=0-", "bytes=10-", "bytes=-0", "bytes=0-1,5-6", "bytes=5-,9999999999999-", "bytes=1-0", "", "x"} {
		for _, long := range []int{low, low + 1, -body, -2, -1, body + 1, body + 2, 1 << 31, late, high - 1, high} {
			picks(t, s, long, api.Span{}, Whole)
		}
	}
}

func TestPickOfManyElements(t *testing.T) {
	for _, n := range []int{0, 1, 2, 30, 31, 32, 33} {
		none := strings.Repeat("10-,", n)
		for i := 0; i <= len(none); i += 4 {
			want, answer := at(2, 5), Partial
			if n+1 > 32 {
				want, answer = api.Span{}, Whole
			}
			picks(t, "bytes="+none[:i]+"2-4,"+none[i:], 10, want, answer)
			picks(t, "bytes="+none[:i]+"2-4,"+none[i:]+"-1", 10, api.Span{}, Whole)
		}
		answer := Refused
		if n == 0 || n > 32 {
			answer = Whole
		}
		picks(t, "bytes="+none, 10, api.Span{}, answer)
	}
}

// TestPickOfEachList holds each short list of ranges, in short bodies, against the plain reading.
func TestPickOfEachList(t *testing.T) {
	ranges := []string{"0-0", "0-", "1-2", "2-9", "3-", "5-5", "-0", "-1", "-4", "0-99", "2-1", "x"}
	trial.Lists(ranges, 3, func(l []string) {
		for _, long := range []int{-1, 0, 1, 2, 3, 4, 5, 6, body, body + 1} {
			asPicked(t, "bytes="+strings.Join(l, ","), long)
			asPicked(t, "Bytes= ,"+strings.Join(l, " ,,\t"), long)
		}
	})
}

// P14.4: the texts of Content-Range.

func TestContent(t *testing.T) {
	for _, c := range []struct {
		s    api.Span
		long int
		want string
	}{
		{at(0, 1), 1, "bytes 0-0/1"}, {at(0, 2), 10, "bytes 0-1/10"}, {at(7, 10), 10, "bytes 7-9/10"}, {at(0, 10), 10, "bytes 0-9/10"}, {at(9, 10), 10, "bytes 9-9/10"}, {at(9, 10), 11, "bytes 9-9/11"}, {at(0, body), body, "bytes 0-1048575/1048576"}, {at(body-1, body), body, "bytes 1048575-1048575/1048576"}, {at(0, 1), body, "bytes 0-0/1048576"},
		{at(0, 1), -1, "bytes 0-0/*"}, {at(5, 10), -1, "bytes 5-9/*"}, {at(0, body), -1, "bytes 0-1048575/*"}, {at(body-1, body), -1, "bytes 1048575-1048575/*"},
		{at(0, 0), 0, "bytes */0"}, {at(0, 0), 1, "bytes */1"}, {at(0, 0), 10, "bytes */10"}, {at(3, 3), 10, "bytes */10"}, {at(10, 10), 10, "bytes */10"}, {at(0, 0), body, "bytes */1048576"}, {at(body, body), body, "bytes */1048576"},
	} {
		tells(t, c.s, c.long, c.want, api.OK)
	}
}

func TestContentOfNone(t *testing.T) {
	for _, c := range []struct {
		s    api.Span
		long int
	}{
		{at(0, 1), -2}, {at(0, 0), -2}, {at(0, 1), -3}, {at(0, 1), low}, {at(0, 0), low}, {at(0, 1), body + 1}, {at(0, 0), body + 1}, {at(0, 1), high}, {at(0, 0), high}, {at(0, 1), late},
		{at(-1, 0), 10}, {at(-1, 1), 10}, {at(-1, -1), 10}, {at(-2, -1), 10}, {at(low, 1), 10}, {at(low, low), 10}, {at(low, high), 10}, {at(-1, 1), -1}, {at(-1, -1), -1}, {at(low, 1), -1}, {at(low, high), -1}, {at(-1, 0), 0}, {at(-1, -1), 0}, {at(-2, -1), -1},
		{at(1, 0), 10}, {at(5, 4), 10}, {at(10, 0), 10}, {at(high, low), 10}, {at(high, 0), 10}, {at(5, 4), -1}, {at(1, 0), -1}, {at(1, 0), 0}, {at(high, low), -1}, {at(0, -1), 10}, {at(0, low), 10},
		{at(0, 11), 10}, {at(10, 11), 10}, {at(11, 11), 10}, {at(11, 12), 10}, {at(0, 1), 0}, {at(1, 1), 0}, {at(0, body), body - 1}, {at(body, body), body - 1}, {at(0, high), 10}, {at(high, high), 10},
		{at(0, body+1), body}, {at(body, body+1), body}, {at(body+1, body+1), body}, {at(0, body+1), body + 1}, {at(0, body+1), -1}, {at(body, body+1), -1}, {at(body+1, body+2), -1}, {at(0, high), -1}, {at(high-1, high), -1},
		{at(0, 0), -1}, {at(3, 3), -1}, {at(body, body), -1}, {at(body+1, body+1), -1}, {at(high, high), -1},
	} {
		tells(t, c.s, c.long, "", api.Errno(2))
	}
}

// TestContentOfEachEdge holds each mixture of edges against the plain reading, and what was told against what is read.
func TestContentOfEachEdge(t *testing.T) {
	for _, from := range edges {
		for _, to := range edges {
			for _, long := range edges {
				s := at(from, to)
				want, e := plainContent(s, long)
				tells(t, s, long, want, e)
				asRead(t, fmt.Sprintf("bytes %d-%d/%d", from, to, long))
				asRead(t, fmt.Sprintf("bytes 00%d-0%d/00%d", from, to, long))
			}
			asRead(t, fmt.Sprintf("bytes %d-%d/*", from, to))
		}
		asRead(t, fmt.Sprintf("bytes */%d", from))
	}
}

func TestRead(t *testing.T) {
	for _, c := range []struct {
		s    string
		want api.Span
		long int
	}{
		{"bytes 0-0/1", at(0, 1), 1}, {"bytes 0-1/10", at(0, 2), 10}, {"bytes 0-9/10", at(0, 10), 10}, {"bytes 9-9/10", at(9, 10), 10}, {"bytes 3-7/10", at(3, 8), 10}, {"bytes 0-1048575/1048576", at(0, body), body}, {"bytes 1048575-1048575/1048576", at(body-1, body), body}, {"bytes 0-0/1048576", at(0, 1), body},
		{"bytes 0-0/*", at(0, 1), -1}, {"bytes 5-9/*", at(5, 10), -1}, {"bytes 0-1048575/*", at(0, body), -1}, {"bytes 1048575-1048575/*", at(body-1, body), -1},
		{"bytes */0", at(0, 0), 0}, {"bytes */1", at(0, 0), 1}, {"bytes */10", at(0, 0), 10}, {"bytes */1048576", at(0, 0), body},
		{"bytes 00-01/010", at(0, 2), 10}, {"bytes 000005-9/10", at(5, 10), 10}, {"bytes 5-000009/0000000000000000000000000010", at(5, 10), 10}, {"bytes 09-9/*", at(9, 10), -1}, {"bytes */00", at(0, 0), 0}, {"bytes */0010", at(0, 0), 10}, {"bytes */00000000001048576", at(0, 0), body},
		{"bytes " + strings.Repeat("0", 1<<16) + "5-" + strings.Repeat("0", 1<<16) + "6/" + strings.Repeat("0", 1<<16) + "7", at(5, 7), 7},
	} {
		reads(t, c.s, c.want, c.long, true)
	}
}

func TestReadOfNone(t *testing.T) {
	for _, s := range []string{
		"", " ", "b", "bytes", "bytes ", "bytes 0", "bytes 0-", "bytes 0-1", "bytes 0-1/", "bytes *", "bytes */", "bytes -", "bytes /", "bytes -/", "bytes /10", "bytes -/10", "bytes 0-/10", "bytes -1/10", "bytes 5/10", "bytes */-", "bytes -1/*",
		"bytes 0-1/10 ", " bytes 0-1/10", "\tbytes 0-1/10", "bytes 0-1/10\t", "bytes  0-1/10", "bytes\t0-1/10", "bytes \t0-1/10", "bytes0-1/10", "bytes=0-1/10", "bytes: 0-1/10", "bytes 0 -1/10", "bytes 0- 1/10", "bytes 0-1 /10", "bytes 0-1/ 10", "bytes */ 10", "bytes * /10", "bytes */10 ", "bytes */10\n", "bytes 0-1/10\n", "bytes\n0-1/10", "bytes\x000-1/10", "bytes 0-1/10\x00",
		"Bytes 0-1/10", "BYTES 0-1/10", "byteS 0-1/10", "bYtes */10", "byte 0-1/10", "bytess 0-1/10", "items 0-1/10", "ytes 0-1/10", "xbytes 0-1/10", "0-1/10", " 0-1/10", "*/10",
		"bytes */*", "bytes *-*/*", "bytes *-*/10", "bytes 0-*/10", "bytes *-1/10", "bytes *-1/*", "bytes 0-*/*", "bytes **/10", "bytes */**", "bytes 0-1/*0", "bytes 0-1/0*", "bytes 0-1/**", "bytes *0-1/10", "bytes 0-1*/10", "bytes *0/10", "bytes */*/10", "bytes */10/10", "bytes */10/*",
		"bytes 0-1/10/10", "bytes 0-1/10/", "bytes 0-1//10", "bytes /0-1/10", "bytes 0-1-2/10", "bytes 0--1/10", "bytes --1/10", "bytes 0-1-/10", "bytes -0-1/10", "bytes -1-1/10", "bytes 0-1/-10", "bytes 0-1/+10", "bytes +0-1/10", "bytes 0-+1/10", "bytes */-1", "bytes */+1", "bytes 0-1/-1", "bytes */--1", "bytes 0-1,2-3/10", "bytes 0-1/10,", "bytes 0-1/10, bytes 2-3/10", "bytes 0-1/10;", "bytes 0x0-1/10", "bytes a-b/10", "bytes 0-1/a", "bytes 0-1/1a", "bytes */a", "bytes */1 0", `bytes "0-1/10"`, `"bytes 0-1/10"`, "bytes 0-\uff11/10", "bytes \xff", "\xff", "bytes 0-1/\xff",
		"bytes 1-0/10", "bytes 5-4/10", "bytes 5-3/10", "bytes 9-0/10", "bytes 1-0/*", "bytes 5-4/*", "bytes 010-9/20", "bytes 1048575-1048574/1048576", "bytes 1048576-1048575/1048576", "bytes 1-0/1", "bytes 1-0/0",
		"bytes 0-10/10", "bytes 0-11/10", "bytes 10-10/10", "bytes 9-10/10", "bytes 11-12/10", "bytes 0-0/0", "bytes 0-1/1", "bytes 1-1/1", "bytes 0-1048575/1048575", "bytes 0-1048576/1048576", "bytes 1048576-1048576/1048576",
		"bytes 0-1048576/*", "bytes 1048576-1048576/*", "bytes 1048577-1048577/*", "bytes 0-1048577/*", "bytes 0-1048576/1048577", "bytes 0-0/1048577", "bytes */1048577", "bytes */1048578", "bytes */1099511627776", "bytes */18446744073709551616", "bytes */18446744073709551626", "bytes 0-1/18446744073709551626", "bytes 0-18446744073709551617/10", "bytes 18446744073709551616-18446744073709551617/10", "bytes 18446744073709551616-1/10", "bytes 0-9223372036854775807/*", "bytes 9223372036854775807-9223372036854775807/*", "bytes 1048578-1048577/*",
		"bytes */" + strings.Repeat("9", 1<<16), "bytes 0-" + strings.Repeat("9", 1<<16) + "/*", "bytes 0-1/1" + strings.Repeat("0", 1<<16), strings.Repeat("bytes ", 1<<16) + "0-1/10", "bytes " + strings.Repeat(" ", 1<<16) + "0-1/10", "bytes 0-1/10" + strings.Repeat("/", 1<<16), "bytes " + strings.Repeat("-", 1<<16) + "/10", "bytes " + strings.Repeat("*", 1<<16) + "/10",
	} {
		reads(t, s, api.Span{}, 0, false)
	}
}

// TestReadOfBeginnings cuts texts at each place: what is left is none, but where fewer digits of a length do.
func TestReadOfBeginnings(t *testing.T) {
	for _, s := range []string{"bytes 12-34/5678", "bytes 0-0/1", "bytes */10", "bytes 3-5/*", "bytes 100-199/200"} {
		for n := range len(s) + 1 {
			asRead(t, s[:n])
			asRead(t, s[n:])
			if n > 0 {
				reads(t, s[n:], api.Span{}, 0, false)
			}
			if n <= strings.Index(s, "/")+1 {
				reads(t, s[:n], api.Span{}, 0, false)
			}
		}
	}
	reads(t, "bytes */1", at(0, 0), 1, true)
	reads(t, "bytes 12-34/567", at(12, 35), 567, true)
	reads(t, "bytes 12-34/56", at(12, 35), 56, true)
	reads(t, "bytes 12-34/5", api.Span{}, 0, false)
}

func TestReadOfEachChange(t *testing.T) {
	for _, s := range []string{"bytes 0-1/10", "bytes */10", "bytes 5-9/*", "bytes 10-99/100", "bytes */*", "bytes 1-0/5", "bytes 1048575-1048575/1048576"} {
		trial.Changed(s, func(s string) { asRead(t, s) })
	}
}

func TestReadOfEachText(t *testing.T) {
	trial.Texts([]string{"0", "1", "2", "-", "/", "*", " ", ","}, 6, func(s string) { asRead(t, "bytes "+s) })
	trial.Texts([]string{"bytes", " ", "Bytes ", "0-1", "*", "/", "10", "bytes "}, 5, func(s string) { asRead(t, s) })
}

// P14.5: what hangs together.

// TestContentIsRead tells each span of short bodies, and of great ones at their ends, and reads what was told.
func TestContentIsRead(t *testing.T) {
	again := func(s api.Span, long int) {
		text, e := Content(s, long)
		if e != api.OK {
			t.Errorf("Content(%v, %d): %d", s, long, e)
		}
		if s.From == s.To {
			s = api.Span{}
		}
		reads(t, text, s, long, true)
	}
	for long := range 21 {
		for from := range long + 1 {
			for to := from; to <= long; to++ {
				again(at(from, to), long)
				if from < to {
					again(at(from, to), -1)
				}
			}
		}
	}
	for i := range 30 {
		for j := range 30 {
			for _, long := range []int{body, body - 1, body - 29} {
				again(at(i, long-j), long)
				again(at(i, long-j), -1)
				again(at(long-max(i, j), long-j), long)
			}
		}
	}
}

// TestResolvedLies asks whether each span that is told lies in the body, is not empty, and is told and read as it was.
func TestResolvedLies(t *testing.T) {
	for _, long := range append([]int{4, 5, 6, 7, 8, 12, 1000}, edges...) {
		for _, from := range edges {
			for _, to := range edges {
				w := Want{From: from, To: to}
				s, ok := Resolve(w, long)
				if !ok {
					continue
				}
				if s.From < 0 || s.From >= s.To || s.To > long {
					t.Errorf("Resolve(%v, %d) = %v", w, long, s)
				}
				text, e := Content(s, long)
				if e != api.OK {
					t.Errorf("Content(%v, %d): %d", s, long, e)
				}
				reads(t, text, s, long, true)
			}
		}
	}
}

// TestPickTogether asks for each span of short bodies by a Range text of each form, and reads what is told of it.
func TestPickTogether(t *testing.T) {
	for long := range 13 {
		for from := range long {
			for to := from + 1; to <= long; to++ {
				picks(t, fmt.Sprintf("bytes=%d-%d", from, to-1), long, at(from, to), Partial)
				picks(t, fmt.Sprintf("bytes=%d-%d, -0,%d-", from, to-1, long), long, at(from, to), Partial)
			}
			picks(t, fmt.Sprintf("bytes=%d-", from), long, at(from, long), Partial)
			picks(t, fmt.Sprintf("bytes=-%d", long-from), long, at(from, long), Partial)
		}
		picks(t, fmt.Sprintf("bytes=%d-", long), long, api.Span{}, Refused)
	}
}

// Wrong inputs.

// TestAnyBytes holds texts of any bytes, and of pieces in any order, against the plain readings.
func TestAnyBytes(t *testing.T) {
	chance := rand.New(rand.NewSource(14))
	pieces := []string{"bytes=", "bytes ", "BYTES=", "-", "/", "*", ",", " ", "\t", `"`, "0", "5", "12", "1048576", "1048577", "1099511627776", "99999999999999999999", "\x00", "\xff", "x"}
	for range 200000 {
		var b []byte
		for range chance.Intn(12) {
			b = append(b, byte(chance.Intn(256)))
		}
		text := ""
		for range chance.Intn(9) {
			text += pieces[chance.Intn(len(pieces))]
		}
		for _, s := range []string{string(b), text, "bytes=" + string(b), "bytes=" + text, "bytes " + text} {
			asParsed(t, s)
			asRead(t, s)
			asPicked(t, s, edges[chance.Intn(len(edges))])
		}
	}
}

// What is handed out.

// TestWhatIsToldIsNew writes over what was told, its spare room too: what was told elsewhere, and what is told next, is as before.
func TestWhatIsToldIsNew(t *testing.T) {
	for _, s := range []string{"bytes=0-1", "bytes=0-1,5-,-7", "bytes=" + strings.Repeat("2-9,", 31), "bytes=" + strings.Repeat("-3,", 32), "bytes=,,4-,,"} {
		want, _ := plainParse(s)
		first, _ := Parse(s)
		second, _ := Parse(s)
		for _, told := range [][]Want{first, second} {
			if !slices.Equal(told, want) {
				t.Errorf("Parse(%q) became %v, not %v", s, told, want)
			}
			told = told[:cap(told)]
			for i := range told {
				told[i] = Want{From: high, To: low}
			}
		}
		parses(t, s, want, true)
		asPicked(t, s, 10)
	}
}

func TestManyAtOneTime(t *testing.T) {
	var all sync.WaitGroup
	for range 8 {
		all.Go(func() {
			for from := range 40 {
				for to := from; to < 40; to++ {
					s := fmt.Sprintf("bytes=%d-%d", from, to)
					parses(t, s, of(from, to), true)
					picks(t, s, 40, at(from, to+1), Partial)
					tells(t, at(from, to+1), 40, fmt.Sprintf("bytes %d-%d/40", from, to), api.OK)
					reads(t, fmt.Sprintf("bytes %d-%d/40", from, to), at(from, to+1), 40, true)
				}
			}
		})
	}
	all.Wait()
}
