package control

import (
	"fmt"
	"math/big"
	"regexp"
	"slices"
	"strings"
	"sync"
	"testing"

	"gatepost/api"
	"gatepost/trial"
)

// The chapter's names, as it writes them, with where each is told.
var (
	flags = []struct {
		name string
		of   func(*api.Control) *bool
	}{
		{"no-store", func(c *api.Control) *bool { return &c.NoStore }},
		{"no-cache", func(c *api.Control) *bool { return &c.NoCache }},
		{"private", func(c *api.Control) *bool { return &c.Private }},
		{"public", func(c *api.Control) *bool { return &c.Public }},
		{"must-revalidate", func(c *api.Control) *bool { return &c.Must }},
		{"proxy-revalidate", func(c *api.Control) *bool { return &c.Proxy }},
		{"only-if-cached", func(c *api.Control) *bool { return &c.OnlyCached }},
	}
	numbers = []struct {
		name        string
		of          func(*api.Control) *int
		bare, wrong int // without a value, and with one that is no number
	}{
		{"max-age", func(c *api.Control) *int { return &c.Age }, 0, 0},
		{"s-maxage", func(c *api.Control) *int { return &c.Shared }, 0, 0},
		{"stale-while-revalidate", func(c *api.Control) *int { return &c.While }, -1, -1},
		{"stale-if-error", func(c *api.Control) *int { return &c.IfError }, -1, -1},
		{"min-fresh", func(c *api.Control) *int { return &c.MinFresh }, -1, -1},
		{"max-stale", func(c *api.Control) *int { return &c.MaxStale }, 1 << 31, -1},
	}
)

// said is what is told where nothing is said, but for what the changes set.
var said = trial.Control

// names are all thirteen.
func names() []string {
	var all []string
	for _, f := range flags {
		all = append(all, f.name)
	}
	for _, n := range numbers {
		all = append(all, n.name)
	}
	return all
}

// only is what is told where an element of one of the names is said, with that value (nil: it has none).
func only(name string, value *string) api.Control {
	for _, f := range flags {
		if f.name == name {
			return said(func(c *api.Control) { *f.of(c) = true })
		}
	}
	for _, n := range numbers {
		if n.name != name {
			continue
		}
		told := n.bare
		if value != nil {
			told = plainNumber(*value, n.wrong)
		}
		return said(func(c *api.Control) { *n.of(c) = told })
	}
	return said()
}

var (
	elementForm = regexp.MustCompile("^([!#$%&'*+.^_`|~0-9A-Za-z-]+)(=([!#$%&'*+.^_`|~0-9A-Za-z-]+|\"(?:[\t !#-\\[\\]-~\u0080-\u00ff]|\\\\[\t -~\u0080-\u00ff])*\"))?$")
	hidden      = regexp.MustCompile(`(?s)\\(.)`)
	digits      = regexp.MustCompile(`^[0-9]+$`)
)

// plainNumber is the number of a value, at most MaxAge, or else another one.
func plainNumber(value string, wrong int) int {
	if !digits.MatchString(value) {
		return wrong
	}
	n, _ := new(big.Int).SetString(value, 10)
	if n.Cmp(big.NewInt(1<<31)) > 0 {
		return 1 << 31
	}
	return int(n.Int64())
}

// plainSplit is the plain reading of a list: which bytes lie in a quoted text, then where commas lie outside.
func plainSplit(s string) ([]string, bool) {
	var list []string
	part, quoted, behind := "", false, false
	for i := range len(s) {
		c := s[i]
		if c == ',' && !quoted {
			list = append(list, part)
			part = ""
			continue
		}
		part += s[i : i+1]
		switch {
		case behind:
			behind = false
		case quoted && c == '\\':
			behind = true
		case c == '"':
			quoted = !quoted
		}
	}
	list = append(list, part)
	var kept []string
	for _, e := range list {
		if e = strings.Trim(e, " \t"); e != "" {
			kept = append(kept, e)
		}
	}
	return kept, !quoted
}

// plain is a second reading of P8.1.
func plain(s string) (api.Control, bool) {
	list, ok := plainSplit(s)
	if !ok {
		return said(func(c *api.Control) { c.NoStore, c.NoCache = true, true }), false
	}
	all := said()
	for _, e := range list {
		m := elementForm.FindStringSubmatch(trial.Wide(e))
		if m == nil {
			continue
		}
		var value *string
		if m[2] != "" {
			v := trial.Narrow(m[3])
			if v[0] == '"' {
				v = trial.Narrow(hidden.ReplaceAllString(trial.Wide(v[1:len(v)-1]), "$1"))
			}
			value = &v
		}
		all = both(all, only(trial.Small(trial.Narrow(m[1])), value))
	}
	return all, true
}

// both is what two say together: P8.3.
func both(a, b api.Control) api.Control {
	all := said()
	for _, f := range flags {
		*f.of(&all) = *f.of(&a) || *f.of(&b)
	}
	for _, n := range numbers {
		x, y := *n.of(&a), *n.of(&b)
		if x == -1 || y == -1 {
			*n.of(&all) = max(x, y)
		} else {
			*n.of(&all) = min(x, y)
		}
	}
	return all
}

// parses asks what a text that is well formed says.
func parses(t *testing.T, s string, want api.Control) {
	t.Helper()
	if c, ok := Parse(s); !ok || c != want {
		t.Errorf("Parse(%q) = %+v, %v; want %+v", s, c, ok, want)
	}
}

// reads holds a text against the plain reading.
func reads(t *testing.T, s string) {
	t.Helper()
	c, ok := Parse(s)
	if want, wantOk := plain(s); c != want || ok != wantOk {
		t.Fatalf("Parse(%q) = %+v, %v; want %+v, %v", s, c, ok, want, wantOk)
	}
}

// says asks what fields say, and looks whether they, and the room behind them, read as before.
func says(t *testing.T, l []api.Field, want api.Control) {
	t.Helper()
	whole := trial.Untouched(l, func(l []api.Field) []api.Field {
		if c := Of(l); c != want {
			t.Errorf("Of(%q) = %+v; want %+v", l, c, want)
		}
		return nil
	})
	if !whole {
		t.Errorf("%q, or what lies behind it, was changed", l)
	}
}

func age(n int) func(*api.Control)      { return func(c *api.Control) { c.Age = n } }
func shared(n int) func(*api.Control)   { return func(c *api.Control) { c.Shared = n } }
func while(n int) func(*api.Control)    { return func(c *api.Control) { c.While = n } }
func ifError(n int) func(*api.Control)  { return func(c *api.Control) { c.IfError = n } }
func minFresh(n int) func(*api.Control) { return func(c *api.Control) { c.MinFresh = n } }
func maxStale(n int) func(*api.Control) { return func(c *api.Control) { c.MaxStale = n } }
func noStore(c *api.Control)            { c.NoStore = true }
func noCache(c *api.Control)            { c.NoCache = true }
func private(c *api.Control)            { c.Private = true }
func public(c *api.Control)             { c.Public = true }
func must(c *api.Control)               { c.Must = true }
func proxy(c *api.Control)              { c.Proxy = true }
func onlyCached(c *api.Control)         { c.OnlyCached = true }

// P8.1

func TestExample(t *testing.T) {
	parses(t, `max-age=60, no-cache="x", MAX-AGE=5`, said(noCache, age(5)))
}

func TestNothing(t *testing.T) {
	for _, s := range []string{"", " ", "\t \t", ",", " , ,\t,", "x", "x=1", `x="no-store, max-age=1"`, "=", "=5", `"no-store"`, `"max-age=5"`} {
		parses(t, s, said())
	}
}

func TestFlags(t *testing.T) {
	told := []struct {
		name string
		want api.Control
	}{
		{"no-store", said(noStore)},
		{"no-cache", said(noCache)},
		{"private", said(private)},
		{"public", said(public)},
		{"must-revalidate", said(must)},
		{"proxy-revalidate", said(proxy)},
		{"only-if-cached", said(onlyCached)},
	}
	for _, d := range told {
		big := strings.ToUpper(d.name)
		mixed := big[:1] + d.name[1:len(d.name)-1] + big[len(big)-1:]
		for _, s := range []string{d.name, big, mixed} {
			parses(t, s, d.want)
			for _, value := range []string{"x", "0", "1", "false", "no", `""`, `" "`, `"x"`, `"a, b"`, `"Set-Cookie"`, `"\""`, `"\\"`, `"max-age=1"`, "\"\xff\""} {
				parses(t, s+"="+value, d.want)
			}
			for _, blanks := range []string{" " + s, s + "\t", "\t " + s + " \t", "," + s, s + ",", " , " + s + " ,, "} {
				parses(t, blanks, d.want)
			}
			for _, wrong := range []string{"=", " =x", "= x", "=x y", "=a=b", "=a/b", `="x"y`, `=x"y"`, "==", "\x00", "\n", "=\"\x7f\"", "=\"\n\"", "=\xff", ";x", " x", "()"} {
				parses(t, s+wrong, said())
			}
			parses(t, `"`+s+`"`, said())
			parses(t, s+", "+s, d.want)
		}
	}
}

func TestNumbers(t *testing.T) {
	told := []struct {
		name        string
		put         func(int) func(*api.Control)
		bare, wrong api.Control
	}{
		{"max-age", age, said(age(0)), said(age(0))},
		{"s-maxage", shared, said(shared(0)), said(shared(0))},
		{"stale-while-revalidate", while, said(), said()},
		{"stale-if-error", ifError, said(), said()},
		{"min-fresh", minFresh, said(), said()},
		{"max-stale", maxStale, said(maxStale(api.MaxAge)), said()},
	}
	values := []struct {
		value string
		want  int
	}{
		{"0", 0}, {"1", 1}, {"9", 9}, {"10", 10}, {"60", 60}, {"31536000", 31536000},
		{"00", 0}, {"007", 7}, {"0000000000000000000000000000005", 5}, {strings.Repeat("0", 5000) + "12", 12},
		{"2147483646", 2147483646}, {"2147483647", 2147483647}, {"2147483648", api.MaxAge}, {"2147483649", api.MaxAge}, {"002147483649", api.MaxAge},
		{"2147483650", api.MaxAge}, {"4294967295", api.MaxAge}, {"4294967296", api.MaxAge}, {"4294967301", api.MaxAge}, {"9999999999", api.MaxAge},
		{"9223372036854775807", api.MaxAge}, {"9223372036854775808", api.MaxAge}, {"18446744073709551616", api.MaxAge}, {"18446744073709551621", api.MaxAge},
		{strings.Repeat("9", 5000), api.MaxAge}, {"1" + strings.Repeat("0", 400), api.MaxAge},
	}
	wrong := []string{
		"x", "-", "-1", "-0", "+5", "+", "1.5", "5.", ".5", "1e3", "0x10", "5s", "s5", "1_000", "1'0", "5%", "no", "*",
		`""`, `" "`, `" 5"`, `"5 "`, "\"\t5\"", `"5 5"`, `"5,5"`, `"-5"`, `"+5"`, `"5;"`, `"x"`, `"\""`, `"\\5"`, "\"\xb2\"", "\"\xef\xbc\x95\"", `"=5"`, `"5="`,
	}
	notTaken := []string{"=", "= 5", " =5", " = 5", "=5 5", "=5;", "==5", "=5=5", `="5"5`, `=5"5"`, `="5" 5`, "=5\x00", "=\xb2", "=(5)", " 5", ":5", "5\n", "\xff=5", "=\"5\x7f\""}
	for _, d := range told {
		big := strings.ToUpper(d.name)
		for _, s := range []string{d.name, big, big[:3] + d.name[3:]} {
			parses(t, s, d.bare)
			parses(t, " \t"+s+"\t ", d.bare)
			for _, v := range values {
				parses(t, s+"="+v.value, said(d.put(v.want)))
				parses(t, s+`="`+v.value+`"`, said(d.put(v.want)))
				parses(t, " , \t"+s+"="+v.value+" , ", said(d.put(v.want)))
			}
			parses(t, s+`="\5"`, said(d.put(5)))
			parses(t, s+`="\1\2"`, said(d.put(12)))
			for _, v := range wrong {
				parses(t, s+"="+v, d.wrong)
			}
			for _, v := range notTaken {
				parses(t, s+v, said())
			}
			parses(t, `"`+s+`"`, said())
			parses(t, `"`+s+`=5"`, said())
		}
	}
}

// TestNames changes each name by a byte: but for another size of a letter, and a blank, comma or = at its end, nothing is said.
func TestNames(t *testing.T) {
	for _, name := range names() {
		for _, value := range []string{"", "=5", `="5"`} {
			trial.Changed(name, func(s string) { reads(t, s+value) })
		}
	}
	for _, s := range []string{
		"no-stor", "nostore", "no_store", "no-stores", "no store", "no-store-", "xno-store", "no--store", "must", "proxy", "revalidate", "onlycached", "only-cached", "only-if-cache",
		"maxage=5", "max_age=5", "s-max-age=5", "smaxage=5", "max-ages=5", "age=5", "shared-max-age=5", "stale-while-revalidat=5", "stale-while=5", "stale-if-errors=5", "stale-on-error=5",
		"min-stale=5", "max-fresh=5", "minfresh=5", "maxstale", "max-stales", "stale", "immutable", "no-transform", "must-understand", "\xeeo-store", "no\xadstore", "no\xe2\x80\x91store",
	} {
		parses(t, s, said())
	}
	parses(t, "\u212aax-age=5, max-\u0430ge=5, pr\u0131vate, PR\u0130VATE, no-\u017ftore, publi\xc3", said()) // letters that fold to ASCII's, or look alike
}

// TestValues changes each byte of an element with a value.
func TestValues(t *testing.T) {
	for _, name := range []string{"max-age", "max-stale", "min-fresh", "private"} {
		for _, value := range []string{"5", "05", "2147483648", `"5"`, `"\5"`, `""`, `"a, b"`} {
			trial.Changed(name+"="+value, func(s string) { reads(t, s) })
			trial.Changed(value, func(s string) { reads(t, "no-cache,"+name+"="+s+", public") })
		}
	}
}

// TestBeside has elements that say nothing between others.
func TestBeside(t *testing.T) {
	for _, e := range []string{"", " ", "x", "x=", "=5", "max-age=", "max-age =1", "max-age= 1", "no-store=", "no-store x", `"no-store"`, `"max-age=1, no-store"`, "max-age=1;no-store", `max-age="1"x`, "\x00", "max-age=1 no-store", "private/public", "\xff", "min-fresh=x", "max-stale=x", `max-stale=""`, "stale-if-error"} {
		for _, s := range []string{e + ",public,max-age=60", "public," + e + ",max-age=60", "public,max-age=60," + e, e + "," + e + ",public," + e + "," + e + ",max-age=60," + e + "," + e} {
			parses(t, s, said(public, age(60)))
		}
	}
}

// TestSeveral says a number several times: the least that is one counts, whatever the order.
func TestSeveral(t *testing.T) {
	for _, n := range numbers {
		put := func(v int) api.Control { return said(func(c *api.Control) { *n.of(c) = v }) }
		for _, several := range []struct {
			values []string
			want   int
		}{
			{[]string{"=5", "=5"}, 5},
			{[]string{"=5", "=6"}, 5},
			{[]string{"=0", "=6"}, 0},
			{[]string{"=9", "=10"}, 9},
			{[]string{"=5", `="4"`, "=60"}, 4},
			{[]string{"=3", "=1", "=2", "=0007"}, 1},
			{[]string{"=2147483647", "=2147483648"}, 2147483647},
			{[]string{"=2147483648", "=99999999999999999999"}, api.MaxAge},
			{[]string{"=99999999999999999999", "=7"}, 7},
			{[]string{"=5", "="}, 5},
			{[]string{"=5", "=4 x"}, 5},
			{[]string{"=5", `="4"x`}, 5},
		} {
			trial.Orders(several.values, func(l []string) {
				parses(t, n.name+strings.Join(l, ","+n.name), put(several.want))
				parses(t, n.name+strings.Join(l, ", public ,,"+strings.ToUpper(n.name)), both(put(several.want), said(public)))
			})
		}
	}
}

// TestSeveralWithout says a number several times, once without one: with max-age and s-maxage that is 0.
func TestSeveralWithout(t *testing.T) {
	wants := []struct {
		name        string
		bare, wrong int // beside 5 and 7
	}{
		{"max-age", 0, 0}, {"s-maxage", 0, 0}, {"stale-while-revalidate", 5, 5}, {"stale-if-error", 5, 5}, {"min-fresh", 5, 5}, {"max-stale", 5, 5},
	}
	for i, w := range wants {
		n := numbers[i]
		put := func(v int) api.Control { return said(func(c *api.Control) { *n.of(c) = v }) }
		trial.Orders([]string{"=5", "=7", ""}, func(l []string) { parses(t, w.name+strings.Join(l, ","+w.name), put(w.bare)) })
		for _, v := range []string{"=x", "=-1", `=""`, `=" 1"`} {
			trial.Orders([]string{"=5", "=7", v}, func(l []string) { parses(t, w.name+strings.Join(l, ","+w.name), put(w.wrong)) })
		}
	}
	for _, v := range []string{"=x", `=""`, "=-1", "="} {
		trial.Orders([]string{"", v}, func(l []string) {
			parses(t, "max-stale"+strings.Join(l, ",max-stale"), said(maxStale(api.MaxAge)))
		})
	}
	parses(t, "max-stale, max-stale", said(maxStale(api.MaxAge)))
	parses(t, "max-stale, max-stale=0", said(maxStale(0)))
	parses(t, "max-stale=2147483647, max-stale", said(maxStale(api.MaxAge-1)))
	parses(t, "max-stale=99999999999, max-stale", said(maxStale(api.MaxAge)))
	parses(t, "max-stale=x, max-stale=y", said())
	parses(t, "max-age, max-age=x", said(age(0)))
	parses(t, "max-age=5, s-maxage", said(age(5), shared(0)))
	parses(t, "max-age=x, s-maxage=5", said(age(0), shared(5)))
}

// TestAll says everything at once.
func TestAll(t *testing.T) {
	parses(t, `no-store, no-cache="a,b", private=x, public, must-revalidate, proxy-revalidate, only-if-cached, max-age=1, s-maxage=2, stale-while-revalidate=3, stale-if-error=4, min-fresh=5, max-stale=6`,
		said(noStore, noCache, private, public, must, proxy, onlyCached, age(1), shared(2), while(3), ifError(4), minFresh(5), maxStale(6)))
	parses(t, strings.Repeat("max-age=9,", 20000)+"max-age=8", said(age(8)))
}

// TestUnended has a quoted text that does not end: what is ahead of it and behind it counts for nothing.
func TestUnended(t *testing.T) {
	wants := said(noStore, noCache)
	for _, open := range []string{`"`, `x="`, `no-cache="x`, `max-age="5`, `x="\"`, `x="a\"b`, `x="\\\"`, `"" "`, `"a"b"`, `x="y" z="`, `max-stale="`, `"\`, `""""" `} {
		for _, s := range []string{open, "max-age=5, " + open, "public,private , must-revalidate," + open, open + ", max-age=5, public", open + ",min-fresh=1,max-stale", "s-maxage=1, max-age," + open + ", only-if-cached, proxy-revalidate=1"} {
			if c, ok := Parse(s); ok || c != wants {
				t.Errorf("Parse(%q) = %+v, %v; want %+v, false", s, c, ok, wants)
			}
		}
	}
	parses(t, `x="a, no-store", max-age=5`, said(age(5)))
	parses(t, `x="\", no-store, \"", max-age=5`, said(age(5)))
	parses(t, `x="\\", no-store, x="\\"`, said(noStore))
	parses(t, `\", no-store, "`, said())
	parses(t, `\" , max-age=5"`, said())
}

// TestPlain holds every short text of some pieces against the plain reading.
func TestPlain(t *testing.T) {
	trial.Texts([]string{"max-age", "=", "5", ",", `"`, `\`, " "}, 6, func(s string) { reads(t, s) })
	trial.Texts([]string{"max-stale", "=4", `="3"`, "=x", ",", " ", "NO-CACHE"}, 6, func(s string) { reads(t, s) })
	trial.Texts([]string{",no-store", ",s-maxage", ",MIN-fresh", "=7", "=8", "\t", `"`, `="x`, "\xff"}, 5, func(s string) { reads(t, s) })
}

// P8.2

func TestOf(t *testing.T) {
	for _, c := range []struct {
		l    []api.Field
		want api.Control
	}{
		{nil, said()},
		{[]api.Field{}, said()},
		{trial.Fields("Age", "5", "X", "no-store"), said()},
		{trial.Fields("Cache-Control", "max-age=5, private"), said(age(5), private)},
		{trial.Fields("cache-control", "public"), said(public)},
		{trial.Fields("CACHE-CONTROL", "public"), said(public)},
		{trial.Fields("cAcHe-CoNtRoL", "Public"), said(public)},
		{trial.Fields("Cache-Control", ""), said()},
		{trial.Fields("Cache-Control ", "public", "Cache_Control", "public", "CacheControl", "public", "Cache-Contro", "public", "Cache-Controls", "public", "", "public"), said()},
		{trial.Fields("A", "1", "Cache-Control", "max-age=7", "B", "2", "cache-control", "max-age=5", "CACHE-control", "no-store"), said(age(5), noStore)},
		{trial.Fields("Cache-Control", "max-age=5", "Cache-Control", "max-age=7"), said(age(5))},
		{trial.Fields("Cache-Control", "", "Cache-Control", "must-revalidate", "cache-control", ""), said(must)},
		{trial.Fields("Cache-Control", "", "Cache-Control", ""), said()},
		{trial.Fields("Cache-Control", "x", "cache-control", "max-age"), said(age(0))},
		{trial.Fields("Cache-Control", "max-age", "cache-control", "=5"), said(age(0))}, // two elements
		{trial.Fields("Cache-Control", `x="a`, "cache-control", `no-store", public`), said(public)},
		{trial.Fields("Cache-Control", `public, x="a`), said(noStore, noCache)},
		{trial.Fields("Cache-Control", "public", "X", `"`, "cache-control", `"`, "cache-control", "max-age=1"), said(noStore, noCache)},
		{trial.Fields("Cache-Control", "max-age=2147483649, max-stale"), said(age(api.MaxAge), maxStale(api.MaxAge))},
		{trial.Fields("Cache-Control", "no-store\r\n, public"), said(public)},
	} {
		says(t, c.l, c.want)
	}
}

func TestPragma(t *testing.T) {
	for _, c := range []struct {
		l    []api.Field
		want api.Control
	}{
		{trial.Fields("Pragma", "no-cache"), said(noCache)},
		{trial.Fields("pragma", "no-cache"), said(noCache)},
		{trial.Fields("PRAGMA", "NO-CACHE"), said(noCache)},
		{trial.Fields("PrAgMa", "No-Cache"), said(noCache)},
		{trial.Fields("Pragma", "no-cache, x"), said(noCache)},
		{trial.Fields("Pragma", "x=1 ,,\tno-cache\t"), said(noCache)},
		{trial.Fields("Pragma", `"a, b", no-cache, max-age=5, no-store`), said(noCache)}, // alone
		{trial.Fields("Pragma", "x", "A", "1", "pragma", "no-cache"), said(noCache)},
		{trial.Fields("Pragma", "no-cache", "pragma", ""), said(noCache)},
		{trial.Fields("Pragma", "", "pragma", "no-cache"), said(noCache)},
		{trial.Fields("Pragma", `"`, "pragma", `", no-cache`), said(noCache)},
		{trial.Fields("X", "max-age=5", "Pragma", "no-cache", "Cache-Contro", "max-age=5"), said(noCache)},
		{trial.Fields("Pragma", ""), said()},
		{trial.Fields("Pragma", `"no-cache"`), said()},
		{trial.Fields("Pragma", `x="no-cache"`), said()},
		{trial.Fields("Pragma", `"x, no-cache"`), said()},
		{trial.Fields("Pragma", "no-cache=1"), said()},
		{trial.Fields("Pragma", "no-cache="), said()},
		{trial.Fields("Pragma", `no-cache="x"`), said()},
		{trial.Fields("Pragma", "no-cache x"), said()},
		{trial.Fields("Pragma", "no-cach"), said()},
		{trial.Fields("Pragma", "no-caches"), said()},
		{trial.Fields("Pragma", "no cache"), said()},
		{trial.Fields("Pragma", "nocache"), said()},
		{trial.Fields("Pragma", "no-cac\xe8e"), said()},
		{trial.Fields("Pragma", "no-", "Pragma", "cache"), said()},
		{trial.Fields("Pragma", "no-store, max-age=5, private"), said()},
		{trial.Fields("Pragma", `no-cache, "`), said()},
		{trial.Fields("Pragma", `no-cache, x="a\"`), said()},
		{trial.Fields("Pragma", `"`, "Pragma", "no-cache"), said()},
		{trial.Fields("Pragma", "no-cache", "Pragma", `"`), said()},
		{trial.Fields("Pragm", "no-cache", "Pragmas", "no-cache", "Pragma ", "no-cache", "", "no-cache"), said()},
		{trial.Fields("Cache-Control", "", "Pragma", "no-cache"), said()},
		{trial.Fields("Pragma", "no-cache", "cache-control", ""), said()},
		{trial.Fields("Pragma", "no-cache", "Cache-Control", ","), said()},
		{trial.Fields("Pragma", "no-cache", "Cache-Control", "x"), said()},
		{trial.Fields("Pragma", "no-cache", "CACHE-CONTROL", "max-age=5"), said(age(5))},
		{trial.Fields("Pragma", "no-cache", "Cache-Control", "no-cache"), said(noCache)},
		{trial.Fields("Pragma", "no-cache", "Cache-Control", `"`), said(noStore, noCache)},
	} {
		says(t, c.l, c.want)
	}
	trial.Changed("no-cache", func(s string) {
		want := said()
		if list, ok := plainSplit(trial.Small(s)); ok && slices.Contains(list, "no-cache") {
			want = said(noCache)
		}
		says(t, trial.Fields("Pragma", s), want)
	})
}

// TestOfPlain holds every short list of some fields against the plain reading.
func TestOfPlain(t *testing.T) {
	of := trial.Fields("Cache-Control", "max-age=5", "cache-control", "max-age=4, Public", "CACHE-CONTROL", "", "Cache-Control", `x="`, "Pragma", "NO-cache", "pragma", `"`, "pragma", "", "X", "no-store")
	trial.Lists(of, 5, func(l []api.Field) { says(t, l, plainOf(l)) })
}

// plainOf is a second reading of P8.2.
func plainOf(l []api.Field) api.Control {
	var controls, pragmas []string
	for _, f := range l {
		switch trial.Small(f.Name) {
		case "cache-control":
			controls = append(controls, f.Value)
		case "pragma":
			pragmas = append(pragmas, f.Value)
		}
	}
	if len(controls) > 0 {
		c, _ := plain(strings.Join(controls, ", "))
		return c
	}
	if list, ok := plainSplit(trial.Small(strings.Join(pragmas, ", "))); ok && slices.Contains(list, "no-cache") {
		return said(noCache)
	}
	return said()
}

// P8.3

func TestOrder(t *testing.T) {
	elements := []string{"max-age=5", "MAX-AGE=4", "max-age", "max-stale", "max-stale=6", "max-stale=x", "no-cache", `no-cache="a,b"`, "private", "min-fresh=3", "min-fresh=2", "s-maxage=x", "s-maxage=1", "x", "", "="}
	var choose func(l []string, from int)
	choose = func(l []string, from int) {
		want, _ := plain(strings.Join(l, ","))
		trial.Orders(l, func(o []string) { parses(t, strings.Join(o, ","), want) })
		for i := from; i < len(elements) && len(l) < 4; i++ {
			choose(append(slices.Clone(l), elements[i]), i)
		}
	}
	choose(nil, 0)
	many, _ := Parse("public, max-age=5, max-age=3, max-stale, max-stale=9, min-fresh=1, no-store")
	trial.Orders([]string{"public", "max-age=5", "max-age=3", "max-stale", "max-stale=9", "min-fresh=1", "no-store"}, func(o []string) { parses(t, strings.Join(o, " ,\t"), many) })
}

// TestTogether has two texts with a comma between: they say what both say.
func TestTogether(t *testing.T) {
	texts := []string{"", ",", "x", "no-store", "no-store=x", "private, max-age=5", "max-age=4,,", `max-age="3"`, "max-age", "max-age=x", "max-age=99999999999", "max-stale", "max-stale=7", "max-stale=x", `x="a, b"`, "s-maxage=0, public", "s-maxage=1, must-revalidate", "stale-while-revalidate=9", "stale-while-revalidate=8, stale-while-revalidate", "stale-if-error=2", "stale-if-error=1, proxy-revalidate", "min-fresh=6, only-if-cached", "min-fresh=2147483648"}
	for _, a := range texts {
		for _, b := range texts {
			x, _ := Parse(a)
			y, _ := Parse(b)
			parses(t, a+","+b, both(x, y))
			parses(t, b+" , "+a, both(x, y))
			says(t, trial.Fields("Cache-Control", a, "X", "no-store", "cache-control", b), both(x, y))
		}
	}
	trial.Texts([]string{"max-stale", "=2", "=1", ",", `"`, "public"}, 3, func(a string) {
		trial.Texts([]string{"max-stale", "=3", "=0", ",", `"`, "private"}, 3, func(b string) {
			x, xOk := Parse(a)
			y, yOk := Parse(b)
			if xOk && yOk {
				parses(t, a+","+b, both(x, y))
			}
		})
	})
}

// Rules that hold everywhere

// TestSame asks the same things many times at once: what is told hangs on what is handed in alone.
func TestSame(t *testing.T) {
	text := `max-age=9, MAX-age=8, max-stale, max-stale=3, no-cache="x", min-fresh=x, public, stale-if-error=4`
	want := said(age(8), maxStale(3), noCache, public, ifError(4))
	l := trial.Fields("Cache-Control", text, "Pragma", "no-cache")
	old := trial.Fields("Pragma", "no-cache")
	var all sync.WaitGroup
	for range 8 {
		all.Go(func() {
			for range 500 {
				if c, ok := Parse(text); !ok || c != want {
					t.Errorf("Parse = %+v, %v", c, ok)
				}
				if c := Of(l); c != want {
					t.Errorf("Of = %+v", c)
				}
				if c := Of(old); c != said(noCache) {
					t.Errorf("Of = %+v", c)
				}
				if c, ok := Parse(`"`); ok || c != said(noStore, noCache) {
					t.Errorf("Parse = %+v, %v", c, ok)
				}
			}
		})
	}
	all.Wait()
}

// TestWrong hands in texts and fields of all bytes.
func TestWrong(t *testing.T) {
	every := ""
	for c := range 256 {
		every += string([]byte{byte(c)})
		reads(t, every)
		reads(t, every[c:]+",max-age=5,"+every[c:])
		says(t, trial.Fields(every, every, "Cache-Control", every[c:]), plainOf(trial.Fields("Cache-Control", every[c:])))
		says(t, trial.Fields("Pragma", every[c:]+",no-cache"), plainOf(trial.Fields("Pragma", every[c:]+",no-cache")))
	}
	long := strings.Repeat("x", 1<<20)
	parses(t, long, said())
	parses(t, "max-age="+long, said(age(0)))
	parses(t, "max-age=5,"+strings.Repeat(",", 1<<20), said(age(5)))
	parses(t, fmt.Sprintf("max-age=5, x=%q", long), said(age(5)))
}
