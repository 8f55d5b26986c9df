package token

import (
	"math"
	"math/big"
	"regexp"
	"slices"
	"strconv"
	"strings"
	"testing"

	"gatepost/trial"
)

// texts hands every text of at most so many of the bytes to a function.
func texts(alphabet string, most int, see func(string)) {
	level := []string{""}
	for n := 0; ; n++ {
		for _, s := range level {
			see(s)
		}
		if n == most {
			return
		}
		var next []string
		for _, s := range level {
			for i := range len(alphabet) {
				next = append(next, s+alphabet[i:i+1])
			}
		}
		level = next
	}
}

// mayQuote is the chapter's list of bytes in a quoted text, written out.
func mayQuote(c int) bool { return c == 9 || c >= 32 && c <= 126 || c >= 128 }

const tokenBytes = "!#$%&'*+-.^_`|~0123456789ABCDEFGHIJKLMNOPQRSTUVWXYZabcdefghijklmnopqrstuvwxyz"

// P1.1

func TestIsByteByByte(t *testing.T) {
	for c := range 256 {
		want := strings.IndexByte(tokenBytes, byte(c)) >= 0
		for _, s := range []string{trial.Byte(c), "a" + trial.Byte(c), trial.Byte(c) + "a", "a" + trial.Byte(c) + "a"} {
			if Is(s) != want {
				t.Errorf("Is(%q) = %v", s, !want)
			}
		}
	}
}

func TestIsWhole(t *testing.T) {
	if Is("") {
		t.Error("the empty text is a token")
	}
	if !Is(tokenBytes) {
		t.Error("all bytes of tokens together are none")
	}
	for _, s := range []string{"a b", " a", "a ", "a,b", "a=b", `"a"`, "a/b", "a:b", "(a)", "{a}", "[a]", "a\x00", "ä"} {
		if Is(s) {
			t.Errorf("Is(%q)", s)
		}
	}
}

func TestValueByteByByte(t *testing.T) {
	for c := range 256 {
		isBlank := c == 32 || c == 9
		inner := mayQuote(c)
		if got := Value("a" + trial.Byte(c) + "a"); got != inner {
			t.Errorf("byte %d between: %v", c, got)
		}
		for _, s := range []string{trial.Byte(c), trial.Byte(c) + "a", "a" + trial.Byte(c)} {
			if got := Value(s); got != (inner && !isBlank) {
				t.Errorf("Value(%q) = %v", s, got)
			}
		}
	}
}

func TestValueWhole(t *testing.T) {
	for _, s := range []string{"", "a", "a b", "a \t  b", "\x80\xff", `"a b", c=d`} {
		if !Value(s) {
			t.Errorf("Value(%q) is false", s)
		}
	}
	for _, s := range []string{" ", "\t", " a", "a ", "\ta", "a\t", "a\r\nb", "a\x00b", "a\x7fb", "a b\n"} {
		if Value(s) {
			t.Errorf("Value(%q) is true", s)
		}
	}
}

func TestLowerAndSame(t *testing.T) {
	for c := range 256 {
		want := c
		if c >= 65 && c <= 90 {
			want = c + 32
		}
		if got := Lower("Z" + trial.Byte(c)); got != "z"+trial.Byte(want) {
			t.Errorf("Lower of byte %d: %q", c, got)
		}
		for d := range 256 {
			a, b := trial.Byte(c), trial.Byte(d)
			if Same("x"+a, "X"+b) != (Lower(a) == Lower(b)) {
				t.Errorf("Same of bytes %d and %d", c, d)
			}
		}
	}
	if Lower("") != "" || Lower("ETag-7") != "etag-7" || Lower("ÄÉ\xc0") != "ÄÉ\xc0" {
		t.Error("Lower")
	}
	for _, p := range [][2]string{{"", ""}, {"ETag", "etag"}, {"CACHE-CONTROL", "cache-Control"}} {
		if !Same(p[0], p[1]) {
			t.Errorf("Same(%q, %q) is false", p[0], p[1])
		}
	}
	for _, p := range [][2]string{{"a", ""}, {"", "a"}, {"a", "ab"}, {"ab", "a"}, {"Ä", "ä"}, {"a ", "a"}, {"K", "\u212a"}} {
		if Same(p[0], p[1]) {
			t.Errorf("Same(%q, %q) is true", p[0], p[1])
		}
	}
}

func TestTrim(t *testing.T) {
	texts(" \ta\n\xa0", 5, func(s string) {
		if got, want := Trim(s), strings.Trim(s, " \t"); got != want {
			t.Errorf("Trim(%q) = %q, not %q", s, got, want)
		}
	})
	if Trim("\t a b \t") != "a b" || Trim(" \t ") != "" || Trim("") != "" || Trim("\r\n") != "\r\n" {
		t.Error("Trim")
	}
}

// P1.2

func TestSplit(t *testing.T) {
	for _, c := range []struct {
		in   string
		want []string
	}{
		{"", nil},
		{" ,\t,, ", nil},
		{"a", []string{"a"}},
		{"a,b", []string{"a", "b"}},
		{",a,", []string{"a"}},
		{"a, \"b,c\" , ,d", []string{"a", `"b,c"`, "d"}},
		{"a, \"b,c\" ,,d", []string{"a", `"b,c"`, "d"}},
		{"a b\t,\tc  d", []string{"a b", "c  d"}},
		{`a="x,y"z,b`, []string{`a="x,y"z`, "b"}},
		{`"a\",b",c`, []string{`"a\",b"`, "c"}},
		{`"a\\",b`, []string{`"a\\"`, "b"}},
		{`"a\\\",b",c`, []string{`"a\\\",b"`, "c"}},
		{`a\,b`, []string{`a\`, "b"}},
		{`a\"b,c",d`, []string{`a\"b,c"`, "d"}},
		{`"",""`, []string{`""`, `""`}},
		{`" a "`, []string{`" a "`}},
		{`"a""b,c"`, []string{`"a""b,c"`}},
		{"\"\\\x00\n\",\x01", []string{"\"\\\x00\n\"", "\x01"}},
		{"\xff,\x80 ", []string{"\xff", "\x80"}},
		{"a\n,\rb", []string{"a\n", "\rb"}},
	} {
		if got, ok := Split(c.in); !ok || !slices.Equal(got, c.want) {
			t.Errorf("Split(%q) = %q, %v", c.in, got, ok)
		}
	}
}

func TestSplitUnended(t *testing.T) {
	for _, s := range []string{`"`, `a,"`, `"a`, `a,b,"c,d`, `"\"`, `"\\\"`, `"a\`, `"" "`, `a\"`, `"a"",b`} {
		if got, ok := Split(s); ok || len(got) != 0 {
			t.Errorf("Split(%q) = %q, %v", s, got, ok)
		}
	}
}

// plainSplit goes over the chapter's words byte by byte, with what it is in as a state.
func plainSplit(s string) ([]string, bool) {
	const outside, inside, behind = 0, 1, 2
	state, part := outside, ""
	var parts, out []string
	for _, c := range []byte(s) {
		switch {
		case state == outside && c == ',':
			parts, part = append(parts, part), ""
			continue
		case state == outside && c == '"':
			state = inside
		case state == inside && c == '"':
			state = outside
		case state == inside && c == '\\':
			state = behind
		case state == behind:
			state = inside
		}
		part += string([]byte{c})
	}
	if state != outside {
		return nil, false
	}
	for _, p := range append(parts, part) {
		if p = strings.Trim(p, " \t"); p != "" {
			out = append(out, p)
		}
	}
	return out, true
}

func TestSplitAgainstPlainOne(t *testing.T) {
	texts("a,\"\\ ", 7, func(s string) {
		got, ok := Split(s)
		want, wantOK := plainSplit(s)
		if ok != wantOK || !slices.Equal(got, want) {
			t.Errorf("Split(%q) = %q, %v, not %q, %v", s, got, ok, want, wantOK)
		}
	})
}

func TestSplitHandsOutNewLists(t *testing.T) {
	first, _ := Split("a,b,c")
	second, _ := Split("a,b,c")
	clear(first[:cap(first)])
	if !slices.Equal(second, []string{"a", "b", "c"}) {
		t.Error("two answers share memory")
	}
}

// P1.3

func TestPair(t *testing.T) {
	for _, c := range []struct {
		in, name, value string
		has             bool
	}{
		{"no-store", "no-store", "", false},
		{"max-age=5", "max-age", "5", true},
		{`max-age="5"`, "max-age", "5", true},
		{"A=b", "A", "b", true},
		{`a=""`, "a", "", true},
		{`a="b=c, d"`, "a", "b=c, d", true},
		{`a="\"\\\a\ "`, "a", `"\a `, true},
		{"a=\"\t \\\t\x80\\\xff~\"", "a", "\t \t\x80\xff~", true},
		{`a="\\"`, "a", `\`, true},
	} {
		name, value, has, ok := Pair(c.in)
		if !ok || name != c.name || value != c.value || has != c.has {
			t.Errorf("Pair(%q) = %q, %q, %v, %v", c.in, name, value, has, ok)
		}
	}
}

func TestPairWrong(t *testing.T) {
	for _, s := range []string{
		"", "=", "a=", "=a", "=\"a\"", "a b", " a", "a ", "a =b", "a= b", "a=b ", `a="b" `, `a= "b"`, "a=b=c", "a==b",
		"a,b", "a;b", `"a"`, `"a"=b`, "\x80", "a=\x80", `a="`, `a="b`, `a=b"`, `a="b"c`, `a="b""c"`, `a="\"`, `a="b\"`,
		`a="b\\\"`, "a=\"\n\"", "a=\"\\\n\"", "a=\"\x7f\"", "a=\"\\\x7f\"", "a=\"\\\x00\"", "a='b c'", `a=\"b"`,
	} {
		if name, value, has, ok := Pair(s); ok || has || name != "" || value != "" {
			t.Errorf("Pair(%q) = %q, %q, %v, %v", s, name, value, has, ok)
		}
	}
}

func TestPairByteByByte(t *testing.T) {
	for c := range 256 {
		b := trial.Byte(c)
		plain := mayQuote(c) && c != '"' && c != '\\'
		if _, v, _, ok := Pair(`a="x` + b + `y"`); ok != (plain || c == '\\') || plain && v != "x"+b+"y" {
			t.Errorf("byte %d in a quoted text: %q, %v", c, v, ok)
		}
		if _, v, _, ok := Pair(`a="x\` + b + `y"`); ok != mayQuote(c) || ok && v != "x"+b+"y" {
			t.Errorf("byte %d behind a \\: %q, %v", c, v, ok)
		}
		if n, v, has, ok := Pair("a" + b); ok && (n != "a"+b || v != "" || has) || ok != Is("a"+b) {
			t.Errorf("byte %d in a name: %q, %q, %v, %v", c, n, v, has, ok)
		}
	}
}

func TestPairAgainstPattern(t *testing.T) {
	form := regexp.MustCompile(`^(a+)(?:(=)(?:(a+)|"((?:[a=, \t]|\\[a=, \t"\\])*)"))?$`)
	escape := regexp.MustCompile(`\\(.)`)
	texts("a=\"\\, \t\n", 6, func(s string) {
		var name, value string
		m := form.FindStringSubmatch(s)
		if m != nil {
			name, value = m[1], m[3]+escape.ReplaceAllString(m[4], "$1")
		}
		n, v, has, ok := Pair(s)
		if ok != (m != nil) || has != (m != nil && m[2] != "") || n != name || v != value {
			t.Errorf("Pair(%q) = %q, %q, %v, %v", s, n, v, has, ok)
		}
	})
}

func TestQuote(t *testing.T) {
	for _, c := range [][2]string{
		{"", `""`}, {"a", `"a"`}, {"a b,c", `"a b,c"`}, {`"`, `"\""`}, {`\`, `"\\"`}, {`a"\b`, `"a\"\\b"`}, {"\t\x80\xff~ ", "\"\t\x80\xff~ \""},
	} {
		if got, ok := Quote(c[0]); !ok || got != c[1] {
			t.Errorf("Quote(%q) = %q, %v", c[0], got, ok)
		}
	}
	for c := range 256 {
		want := ""
		if mayQuote(c) {
			want = `"x` + trial.Byte(c) + `y"`
		}
		if c == '"' || c == '\\' {
			want = `"x\` + trial.Byte(c) + `y"`
		}
		if got, ok := Quote("x" + trial.Byte(c) + "y"); ok != mayQuote(c) || got != want {
			t.Errorf("Quote of byte %d: %q, %v", c, got, ok)
		}
	}
}

// P1.4

func TestNumber(t *testing.T) {
	for _, c := range []struct {
		in   string
		most int
		want int
	}{
		{"0", 0, 0}, {"9", 0, 0}, {"00", 5, 0}, {"7", 5, 5}, {"5", 5, 5}, {"4", 5, 4}, {"0012", 9, 9}, {"0012", 12, 12},
		{"10", 9, 9}, {"10", 10, 10}, {"10", 11, 10}, {"100", 10, 10}, {"2147483648", 1 << 31, 1 << 31}, {"2147483649", 1 << 31, 1 << 31},
		{"9223372036854775806", math.MaxInt, math.MaxInt - 1},
		{"9223372036854775807", math.MaxInt, math.MaxInt},
		{"9223372036854775808", math.MaxInt, math.MaxInt},
		{"18446744073709551616", math.MaxInt, math.MaxInt},
		{"18446744073709551617", 100, 100},
		{strings.Repeat("9", 1000), 7, 7},
		{strings.Repeat("0", 1000) + "3", 7, 3},
	} {
		if got, ok := Number(c.in, c.most); !ok || got != c.want {
			t.Errorf("Number(%q, %d) = %d, %v", c.in, c.most, got, ok)
		}
	}
}

func TestNumberWrong(t *testing.T) {
	for _, s := range []string{"", " 1", "1 ", "+1", "-1", "-0", "1.0", "0x1", "1_0", "1,0", "a", "1a", "\u0661", "99999999999999999999a", "/", ":"} {
		if got, ok := Number(s, math.MaxInt); ok || got != 0 {
			t.Errorf("Number(%q) = %d, %v", s, got, ok)
		}
	}
	for _, most := range []int{-1, -10, math.MinInt} {
		for _, s := range []string{"0", "1", "", "a"} {
			if got, ok := Number(s, most); ok || got != 0 {
				t.Errorf("Number(%q, %d) = %d, %v", s, most, got, ok)
			}
		}
	}
	for c := range 256 {
		if _, ok := Number("1"+trial.Byte(c), 99); ok != (c >= '0' && c <= '9') {
			t.Errorf("Number with byte %d: %v", c, ok)
		}
	}
}

func TestNumberAgainstWholeNumbers(t *testing.T) {
	for n := range 300 {
		for most := range 300 {
			if got, ok := Number(strconv.Itoa(n), most); !ok || got != min(n, most) {
				t.Errorf("Number(%d, %d) = %d, %v", n, most, got, ok)
			}
		}
	}
	for _, most := range []int{math.MaxInt, math.MaxInt - 1, math.MaxInt/10 + 1, math.MaxInt / 10, math.MaxInt/10 - 1, 1 << 40} {
		for d := int64(-30); d <= 30; d++ {
			n := new(big.Int).Add(big.NewInt(int64(most)), big.NewInt(d))
			want := most
			if d < 0 {
				want = most + int(d)
			}
			if got, ok := Number(n.String(), most); !ok || got != want {
				t.Errorf("Number(%v, %d) = %d, %v", n, most, got, ok)
			}
		}
	}
}

// Numbers whose sums, if they were made, would wrap round to something that looks small.
func TestNumberFarBeyondItsRange(t *testing.T) {
	for k := range 200 {
		for _, factor := range []int64{1, 3, 10, 70, 100, 999} {
			n := new(big.Int).Lsh(big.NewInt(factor), uint(k))
			for _, most := range []int{math.MaxInt, math.MaxInt - 5, 1 << 62, 1 << 61, 1 << 40, 1 << 31, 1<<31 - 1} {
				want := most
				if n.Cmp(big.NewInt(int64(most))) < 0 {
					want = int(n.Int64())
				}
				if got, ok := Number(n.String(), most); !ok || got != want {
					t.Errorf("Number(%v, %d) = %d, %v", n, most, got, ok)
				}
			}
		}
	}
}

// P1.5

func TestJoinedElementsAreSplitAsTheyWere(t *testing.T) {
	texts("a,\"\\ ", 7, func(s string) {
		list, ok := Split(s)
		if !ok {
			return
		}
		for _, comma := range []string{",", ", ", " ,\t", ",,"} {
			again, ok := Split(strings.Join(list, comma))
			if !ok || !slices.Equal(again, list) {
				t.Errorf("%q joined by %q: %q, %v", list, comma, again, ok)
			}
		}
	})
}

func TestQuotedIsThePairsValue(t *testing.T) {
	see := func(s string) {
		q, ok := Quote(s)
		if !ok {
			t.Errorf("Quote(%q) is false", s)
		}
		if n, v, has, ok := Pair("a=" + q); !ok || !has || n != "a" || v != s {
			t.Errorf("%q is quoted as %q, which is %q, %v, %v", s, q, v, has, ok)
		}
		if l, ok := Split(q + "," + q); !ok || !slices.Equal(l, []string{q, q}) {
			t.Errorf("%q twice is split as %q, %v", q, l, ok)
		}
	}
	texts("a\"\\=, \t\x80", 5, see)
	all := ""
	for c := range 256 {
		if mayQuote(c) {
			see(trial.Byte(c))
			all += trial.Byte(c)
		}
	}
	see(all)
}
