package storing

import (
	"math"
	"slices"
	"strconv"
	"strings"
	"sync"
	"testing"
	"unsafe"

	"gatepost/api"
	"gatepost/control"
	"gatepost/date"
	"gatepost/field"
	"gatepost/fresh"
	"gatepost/token"
	"gatepost/trial"
)

const (
	low  = math.MinInt
	high = math.MaxInt
)

// A second in each form of a date, and another one.
const (
	second = 784111777
	first  = "Sun, 06 Nov 1994 08:49:37 GMT"
	long   = "Sunday, 06-Nov-94 08:49:37 GMT"
	short  = "Sun Nov  6 08:49:37 1994"
	later  = "Sun, 06 Nov 1994 08:49:38 GMT"
)

// five are the names of what speaks of a body, as the chapter writes them.
var five = []string{"Content-Length", "Content-Encoding", "Content-Range", "Content-Type", "Transfer-Encoding"}

// seven are the names that are for one connection alone.
var seven = []string{"Connection", "Keep-Alive", "Proxy-Connection", "TE", "Trailer", "Transfer-Encoding", "Upgrade"}

func response(code int, parts ...string) api.Response {
	return api.Response{Minor: 1, Code: code, Reason: "R", Fields: trial.Fields(parts...)}
}

func get(parts ...string) api.Request {
	return api.Request{Method: "GET", Target: "/", Minor: 1, Fields: trial.Fields(parts...)}
}

// known is the meta of a response with a code, asked for at 3 and got at 5, of which nothing else is known but what the changes set.
func known(code int, changes ...func(*api.Meta)) api.Meta {
	at := func(m *api.Meta) { m.Code, m.Asked, m.Got = code, 3, 5 }
	return trial.Meta(append([]func(*api.Meta){at}, changes...)...)
}

// elements is the plain reading of the elements of a name's text.
func elements(l []api.Field, name string) ([]string, bool) {
	return token.Split(strings.Join(trial.Values(l, name), ", "))
}

// plainDate is the plain reading of a date's field.
func plainDate(l []api.Field, name string, wrong int) int {
	found := trial.Values(l, name)
	if len(found) == 0 {
		return -1
	}
	if sec, ok := date.Parse(found[0]); ok && len(found) == 1 {
		return sec
	}
	return wrong
}

// plainAge is the plain reading of the Age field.
func plainAge(l []api.Field) int {
	list, ok := elements(l, "age")
	if !ok || len(list) == 0 || strings.Trim(list[0], "0123456789") != "" {
		return -1
	}
	digits := strings.TrimLeft(list[0], "0")
	if len(digits) > 10 {
		return api.MaxAge
	}
	n := 0
	for _, c := range digits {
		n = n*10 + int(c-'0')
	}
	return min(n, 2147483648)
}

// plainOf is a plain reading of P10.1.
func plainOf(r api.Response, asked, got int) api.Meta {
	return api.Meta{
		Code: r.Code, Control: control.Of(r.Fields),
		Date: plainDate(r.Fields, "date", -1), Expires: plainDate(r.Fields, "expires", 0), Modified: plainDate(r.Fields, "last-modified", -1),
		Age: plainAge(r.Fields), Asked: asked, Got: got, Tag: strings.Join(trial.Values(r.Fields, "etag"), ", "),
	}
}

// plainMay is a plain reading of P10.2.
func plainMay(req api.Request, r api.Response) bool {
	asks, says := control.Of(req.Fields), control.Of(r.Fields)
	if req.Method != "GET" || asks.NoStore || says.NoStore || says.Private {
		return false
	}
	good := r.Code >= 200 && r.Code <= 299
	if !good && !(r.Code >= 300 && r.Code <= 599 && r.Code != 304) {
		return false
	}
	if len(trial.Values(req.Fields, "range")) > 0 && good && r.Code != 200 && r.Code != 206 {
		return false
	}
	if list, ok := elements(r.Fields, "vary"); !ok || slices.Contains(list, "*") {
		return false
	}
	if len(trial.Values(req.Fields, "authorization")) > 0 && !says.Public && !says.Must && says.Shared < 0 {
		return false
	}
	return len(trial.Values(r.Fields, "expires")) > 0 || says.Public || says.Age >= 0 || says.Shared >= 0 || fresh.Heuristic(r.Code)
}

// plainFields is a plain reading of the fields of P10.3.
func plainFields(l, news []api.Field) []api.Field {
	has := func(names []string, name string) bool {
		return slices.ContainsFunc(names, func(n string) bool { return trial.Small(n) == trial.Small(name) })
	}
	left := field.Strip(news)
	var told []api.Field
	for _, f := range l {
		if has(five, f.Name) || len(trial.Values(left, trial.Small(f.Name))) == 0 {
			told = append(told, f)
		}
	}
	for _, f := range left {
		if !has(five, f.Name) {
			told = append(told, f)
		}
	}
	return told
}

// untouched hands a response's fields with spare room to a function, and looks whether both read as before.
func untouched(t *testing.T, l []api.Field, do func(l []api.Field) []api.Field) {
	t.Helper()
	if !trial.Untouched(l, do) {
		t.Errorf("%q, or what lies behind it, was changed, or shares its memory with what was told", l)
	}
}

// is asks what is known of a response.
func is(t *testing.T, r api.Response, asked, got int, want api.Meta) {
	t.Helper()
	untouched(t, r.Fields, func(l []api.Field) []api.Field {
		t.Helper()
		r.Fields = l
		if m := Of(r, asked, got); m != want {
			t.Errorf("Of(%+v, %d, %d) is %+v, not %+v", r, asked, got, m, want)
		}
		return nil
	})
}

// may asks whether a response to a request may be stored.
func may(t *testing.T, req api.Request, r api.Response, want bool) {
	t.Helper()
	untouched(t, req.Fields, func(asks []api.Field) []api.Field {
		t.Helper()
		untouched(t, r.Fields, func(says []api.Field) []api.Field {
			t.Helper()
			req.Fields, r.Fields = asks, says
			if ok := May(req, r); ok != want {
				t.Errorf("May(%+v, %+v) is %v", req, r, ok)
			}
			return nil
		})
		return nil
	})
}

// refreshed asks what is told of a stored response with that code and those fields behind a 304 with others.
func refreshed(t *testing.T, l, news, want []api.Field) {
	t.Helper()
	stored := api.Meta{Code: 203, Control: control.Of(trial.Fields("Cache-Control", "no-store, max-age=7")), Date: 1, Expires: 2, Modified: 3, Age: 4, Asked: 5, Got: 6, Tag: "stored"}
	for _, again := range [][2][]api.Field{{l, news}, {slices.Clone(l), slices.Clone(news)}} {
		untouched(t, again[0], func(l []api.Field) []api.Field {
			t.Helper()
			var told []api.Field
			untouched(t, again[1], func(news []api.Field) []api.Field {
				t.Helper()
				m, fields := Refresh(stored, l, api.Response{Minor: 0, Code: 304, Reason: "R", Fields: news}, 8, 9)
				if !slices.Equal(fields, want) {
					t.Errorf("Refresh of %q by %q tells %q, not %q", l, news, fields, want)
				}
				if known := plainOf(api.Response{Code: 203, Fields: want}, 8, 9); m != known {
					t.Errorf("Refresh of %q by %q tells %+v, not %+v", l, news, m, known)
				}
				_, told = Refresh(stored, l, api.Response{Code: 304, Fields: news}, 8, 9)
				return fields
			})
			return told
		})
	}
}

// P10.1

func TestOfNothing(t *testing.T) {
	for _, l := range [][]api.Field{nil, {}, trial.Fields("", ""), trial.Fields("X", first, "Y", "5", "Z", "public")} {
		for _, code := range []int{low, -200, -1, 0, 1, 100, 200, 304, 599, 600, high} {
			is(t, api.Response{Code: code, Fields: l}, 3, 5, known(code))
			is(t, api.Response{Minor: high, Code: code, Reason: first, Fields: l}, 3, 5, known(code))
		}
	}
}

func TestOfAll(t *testing.T) {
	r := response(404, "Date", first, "Cache-Control", "max-age=60, must-revalidate", "Expires", later, "LAST-MODIFIED", short, "age", "12", "ETag", `W/"a"`, "X", "1", "cache-control", "public")
	want := api.Meta{Code: 404, Control: trial.Control(func(c *api.Control) { c.Age, c.Must, c.Public = 60, true, true }), Date: second, Expires: second + 1, Modified: second, Age: 12, Asked: 98, Got: 100, Tag: `W/"a"`}
	is(t, r, 98, 100, want)
	slices.Reverse(r.Fields)
	is(t, r, 98, 100, want)
}

func TestOfAskedAndGot(t *testing.T) {
	edges := []int{low, -100, -2, -1, 0, 1, api.MaxAge, api.MaxTime, api.MaxTime + 1, high}
	for _, asked := range edges {
		for _, got := range edges {
			is(t, response(200), asked, got, known(200, func(m *api.Meta) { m.Asked, m.Got = asked, got }))
			is(t, response(200, "Age", "5", "Date", short), asked, got, known(200, func(m *api.Meta) { m.Asked, m.Got, m.Age, m.Date = asked, got, 5, second }))
		}
	}
}

// dated tells which field of a name a meta's second is of, and what it is where that is not one date.
var dated = []struct {
	name  string
	wrong int
	of    func(*api.Meta) *int
}{
	{"Date", -1, func(m *api.Meta) *int { return &m.Date }},
	{"Expires", 0, func(m *api.Meta) *int { return &m.Expires }},
	{"Last-Modified", -1, func(m *api.Meta) *int { return &m.Modified }},
}

func TestOfDates(t *testing.T) {
	for _, d := range dated {
		want := func(sec int) api.Meta { return known(200, func(m *api.Meta) { *d.of(m) = sec }) }
		for _, name := range trial.Letters(d.name) {
			for _, c := range []struct {
				text string
				sec  int
			}{
				{first, second}, {long, second}, {short, second}, {later, second + 1},
				{"Thu, 01 Jan 1970 00:00:00 GMT", 0}, {"Thu, 01 Jan 1970 00:00:01 GMT", 1}, {"Thu Jan  1 00:00:00 1970", 0},
				{"Fri, 31 Dec 9999 23:59:59 GMT", 253402300799}, {"Sun, 06 Nov 1994 08:49:60 GMT", second + 22},
				{"", d.wrong}, {" ", d.wrong}, {"0", d.wrong}, {"-1", d.wrong}, {"784111777", d.wrong}, {"never", d.wrong}, {"\x00\xff", d.wrong},
				{" " + first, d.wrong}, {first + " ", d.wrong}, {first + ",", d.wrong}, {first + ", " + first, d.wrong}, {`"` + first + `"`, d.wrong},
				{"Mon, 06 Nov 1994 08:49:37 GMT", d.wrong}, {"Wed, 31 Dec 1969 23:59:59 GMT", d.wrong}, {strings.ToLower(first), d.wrong},
			} {
				is(t, response(200, name, c.text), 3, 5, want(c.sec))
				is(t, response(200, "X", first, name, c.text, "Y", later), 3, 5, want(c.sec))
			}
			for _, other := range trial.Letters(d.name) {
				is(t, response(200, name, first, other, first), 3, 5, want(d.wrong))
				is(t, response(200, name, first, "X", "1", other, later), 3, 5, want(d.wrong))
				is(t, response(200, name, first, other, ""), 3, 5, want(d.wrong))
				is(t, response(200, name, "", other, first), 3, 5, want(d.wrong))
				is(t, response(200, name, first, other, "never"), 3, 5, want(d.wrong))
				is(t, response(200, name, "", other, ""), 3, 5, want(d.wrong))
				is(t, response(200, name, "Sun", other, "06 Nov 1994 08:49:37 GMT"), 3, 5, want(d.wrong)) // with the comma between: a date
				is(t, response(200, name, first, other, first, name, first), 3, 5, want(d.wrong))
			}
		}
		for _, name := range trial.Nearly(d.name) {
			is(t, response(200, name, first), 3, 5, want(-1))
			is(t, response(200, name, "never"), 3, 5, want(-1))
			is(t, response(200, name, "never", d.name, first, name, later), 3, 5, want(second))
		}
		is(t, response(200), 3, 5, want(-1))
	}
}

func TestOfAge(t *testing.T) {
	for _, c := range []struct {
		texts []string
		want  int
	}{
		{nil, -1}, {[]string{"0"}, 0}, {[]string{"5"}, 5}, {[]string{"0012"}, 12}, {[]string{"2147483647"}, 2147483647}, {[]string{"2147483648"}, 2147483648},
		{[]string{"2147483649"}, 2147483648}, {[]string{"9223372036854775808"}, 2147483648}, {[]string{strings.Repeat("9", 400)}, 2147483648}, {[]string{strings.Repeat("0", 400) + "7"}, 7},
		{[]string{"5, 6"}, 5}, {[]string{"6,5"}, 6}, {[]string{"5,x"}, 5}, {[]string{"x,5"}, -1}, {[]string{" \t5\t"}, 5}, {[]string{"\t5 ,"}, 5},
		{[]string{",5"}, 5}, {[]string{" , ,\t,5 , 6"}, 5}, {[]string{""}, -1}, {[]string{","}, -1}, {[]string{" , "}, -1},
		{[]string{"x"}, -1}, {[]string{"-1"}, -1}, {[]string{"+1"}, -1}, {[]string{"1.5"}, -1}, {[]string{"5 6"}, -1}, {[]string{"5s"}, -1}, {[]string{"0x5"}, -1}, {[]string{"\xd9\xa5"}, -1}, {[]string{"5\x00"}, -1},
		{[]string{`"5"`}, -1}, {[]string{`5, "a, 6"`}, 5}, {[]string{`"a, 5", 6`}, -1}, {[]string{`5, "`}, -1}, {[]string{`"`}, -1}, {[]string{`5, "a\"`}, -1},
		{[]string{"5", "6"}, 5}, {[]string{"6", "5"}, 6}, {[]string{"", "5"}, 5}, {[]string{"", "", ",", "5"}, 5}, {[]string{"", ""}, -1}, {[]string{"x", "5"}, -1},
		{[]string{"5", "x"}, 5}, {[]string{"5", `"`}, -1}, {[]string{`"`, `"`, "5"}, -1}, {[]string{`5, "`, `"`}, 5}, {[]string{"1", "2", "3"}, 1},
	} {
		want := known(200, func(m *api.Meta) { m.Age = c.want })
		for i := range trial.Letters("Age") {
			parts := []string{"X", "8"}
			for k, text := range c.texts {
				parts = append(parts, trial.Letters("Age")[(i+k)%4], text, "Y", "9")
			}
			is(t, response(200, parts...), 3, 5, want)
		}
	}
	for _, name := range trial.Nearly("Age") {
		is(t, response(200, name, "5"), 3, 5, known(200))
		is(t, response(200, name, `"`, "Age", "5", name, `"`), 3, 5, known(200, func(m *api.Meta) { m.Age = 5 }))
	}
}

func TestOfTag(t *testing.T) {
	for _, c := range []struct {
		texts []string
		want  string
	}{
		{nil, ""}, {[]string{""}, ""}, {[]string{`"a"`}, `"a"`}, {[]string{`W/"a"`}, `W/"a"`}, {[]string{"none"}, "none"}, {[]string{" \x00\xff,\t"}, " \x00\xff,\t"},
		{[]string{`"a"`, `"b"`}, `"a", "b"`}, {[]string{`"a"`, `"a"`}, `"a", "a"`}, {[]string{"", ""}, ", "}, {[]string{"a", "", "b"}, "a, , b"}, {[]string{"*"}, "*"},
	} {
		want := known(200, func(m *api.Meta) { m.Tag = c.want })
		for i := range trial.Letters("ETag") {
			parts := []string{"X", `"x"`}
			for k, text := range c.texts {
				parts = append(parts, trial.Letters("ETag")[(i+k)%4], text, "Y", `"y"`)
			}
			is(t, response(200, parts...), 3, 5, want)
		}
	}
	for _, name := range trial.Nearly("ETag") {
		is(t, response(200, name, `"a"`), 3, 5, known(200))
	}
}

func TestOfControl(t *testing.T) {
	set := func(change func(*api.Control)) api.Meta {
		return known(200, func(m *api.Meta) { change(&m.Control) })
	}
	for _, name := range trial.Letters("Cache-Control") {
		is(t, response(200, name, "max-age=5, private, no-cache=x"), 3, 5, set(func(c *api.Control) { c.Age, c.Private, c.NoCache = 5, true, true }))
		is(t, response(200, name, "max-age=5", "Cache-Control", "s-maxage=4"), 3, 5, set(func(c *api.Control) { c.Age, c.Shared = 5, 4 }))
		is(t, response(200, name, `max-age=5, x="`), 3, 5, set(func(c *api.Control) { c.NoStore, c.NoCache = true, true }))
		is(t, response(200, name, "", "Pragma", "no-cache"), 3, 5, known(200))
	}
	is(t, response(200, "pragma", "no-cache"), 3, 5, set(func(c *api.Control) { c.NoCache = true }))
}

// TestOfOfEachMixture holds every short list of some fields against the plain reading.
func TestOfOfEachMixture(t *testing.T) {
	of := trial.Fields("Date", first, "date", "", "Expires", long, "EXPIRES", "0", "Last-Modified", short, "last-modified", later,
		"Age", "5", "age", `,"`, "ETag", "a", "etag", "", "Cache-Control", "max-age=5", "X", first)
	trial.Lists(of, 4, func(l []api.Field) {
		r := api.Response{Code: 200 + len(l), Fields: l}
		if m, want := Of(r, len(l), 7), plainOf(r, len(l), 7); m != want {
			t.Errorf("Of(%q) is %+v, not %+v", l, m, want)
		}
	})
}

// P10.2

func TestExample(t *testing.T) {
	aged, shared := response(200, "Cache-Control", "max-age=5"), response(200, "Cache-Control", "max-age=5, s-maxage=5")
	may(t, get(), aged, true)
	may(t, get("Authorization", "x"), aged, false)
	may(t, get("Authorization", "x"), shared, true)
	may(t, get("Authorization", "x"), response(200, "Cache-Control", "s-maxage=5"), true)
}

func TestMayByMethod(t *testing.T) {
	for _, r := range []api.Response{response(200), response(200, "Cache-Control", "public, max-age=5"), response(500, "Expires", first)} {
		may(t, api.Request{Method: "GET"}, r, true)
		may(t, api.Request{Method: "GET", Target: "\x00", Minor: low, Fields: []api.Field{}}, r, true)
		for _, method := range []string{"get", "Get", "GEt", "HEAD", "POST", "PUT", "DELETE", "PURGE", "OPTIONS", "", "GET ", " GET", "GE", "GETS", "ET", "G", "GET,GET", "\x00\xff"} {
			may(t, api.Request{Method: method, Target: "/", Minor: 1}, r, false)
		}
	}
}

func TestMayByControls(t *testing.T) {
	for _, name := range trial.Letters("Cache-Control") {
		for text, kept := range map[string]bool{
			"": true, "no-store": false, "NO-STORE": false, "no-store=x": false, `no-store="a, b"`: false, "x, no-store": false, "public, no-store, max-age=5": false,
			`x="no-store"`: true, `"no-store"`: true, "no-stores": true, "no-stor": true, "no store": true, `x="`: false, `public, "a\"`: false, `"`: false,
			"no-cache": true, "must-revalidate": true, "proxy-revalidate": true, "only-if-cached": true, "max-age=0": true, "max-stale": true, "min-fresh=5": true,
		} {
			may(t, get(name, text), response(200, "Cache-Control", "public"), kept)
			may(t, get("X", "1", name, text), response(200), kept)
			may(t, get(), response(200, name, text), kept)
			may(t, get(), response(200, "Cache-Control", "public", name, text), kept)
			may(t, get(name, text), response(200, name, text), kept)
		}
		for text, kept := range map[string]bool{"private": false, "Private": false, "private=x": false, `private="Set-Cookie"`: false, "public, private": false, "max-age=5, PRIVATE, s-maxage=5": false, `x="private"`: true, "privat": true, "privates": true} {
			may(t, get(name, text), response(200, "Cache-Control", "public"), true) // of a request it says nothing
			may(t, get(), response(200, name, text), kept)
			may(t, get(), response(200, "Expires", first, name, text), kept)
		}
	}
	may(t, get("Pragma", "no-cache"), response(200, "Pragma", "no-cache"), true)
	may(t, get("Pragma", "no-store"), response(200, "Pragma", "no-store, private"), true)
	for _, name := range trial.Nearly("Cache-Control") {
		may(t, get(name, "no-store"), response(200, name, "no-store, private"), true)
	}
}

func TestMayByCode(t *testing.T) {
	public, expires := trial.Fields("Cache-Control", "public"), trial.Fields("Expires", "0")
	for code := -70000; code <= 70000; code++ {
		final := code >= 200 && code < 600 && code != 304
		for _, l := range [][]api.Field{public, expires} {
			if May(get(), api.Response{Code: code, Fields: l}) != final {
				t.Errorf("a %d with %q: %v", code, l, !final)
			}
		}
		if kept := final && fresh.Heuristic(code); May(get(), api.Response{Code: code}) != kept {
			t.Errorf("a %d: %v", code, !kept)
		}
	}
	for code, kept := range map[int]bool{low: false, -304: false, -200: false, -1: false, 0: false, 1: false, 99: false, 100: false, 199: false, 200: true, 206: true, 299: true, 300: true, 303: true, 304: false, 305: true, 599: true, 600: false, 601: false, 1000: false, high: false} {
		may(t, get(), response(code, "Cache-Control", "public"), kept)
		may(t, get(), response(code, "Cache-Control", "max-age=5"), kept)
	}
	for _, code := range []int{200, 203, 204, 206, 300, 301, 308, 404, 405, 410, 414, 501} {
		may(t, get(), response(code), true)
	}
	for _, code := range []int{201, 202, 205, 207, 226, 299, 302, 303, 304, 305, 306, 307, 309, 400, 401, 403, 406, 412, 413, 415, 416, 429, 431, 500, 502, 503, 504, 599} {
		may(t, get(), response(code), false)
	}
}

func TestMayByRange(t *testing.T) {
	for _, name := range trial.Letters("Range") {
		for _, value := range []string{"bytes=0-1", "", "x", "none", "\x00"} {
			for code, kept := range map[int]bool{199: false, 200: true, 201: false, 202: false, 203: false, 204: false, 205: false, 206: true, 207: false, 226: false, 298: false, 299: false, 300: true, 301: true, 302: true, 303: true, 304: false, 305: true, 404: true, 416: true, 500: true, 599: true, 600: false} {
				may(t, get(name, value), response(code, "Cache-Control", "public"), kept)
				may(t, get("X", "1", name, value, "range", "y"), response(code, "Expires", ""), kept)
			}
		}
	}
	for _, name := range append(trial.Nearly("Range"), "If-Range", "Content-Range") {
		may(t, get(name, "bytes=0-1"), response(201, "Cache-Control", "public"), true)
	}
	may(t, get(), response(201, "Cache-Control", "public", "Range", "bytes=0-1", "Content-Range", "bytes 0-1/2"), true) // of the request alone
}

func TestMayByVary(t *testing.T) {
	for i := range trial.Letters("Vary") {
		for _, c := range []struct {
			texts []string
			kept  bool
		}{
			{[]string{""}, true}, {[]string{","}, true}, {[]string{"a"}, true}, {[]string{"Accept, accept-language"}, true}, {[]string{"", ""}, true},
			{[]string{"*"}, false}, {[]string{" *\t"}, false}, {[]string{"a, *"}, false}, {[]string{"*,a"}, false}, {[]string{",,*,"}, false}, {[]string{"a,\t* , b"}, false}, {[]string{"*, *"}, false},
			{[]string{`"*"`}, true}, {[]string{`a, "*"`}, true}, {[]string{`"a, *, b"`}, true}, {[]string{`x="*"`}, true}, {[]string{`"a\", *, "`}, true}, {[]string{`"\\", *`}, false}, {[]string{`"a", *`}, false},
			{[]string{`"`}, false}, {[]string{`a, "`}, false}, {[]string{`a, "b\"`}, false}, {[]string{`a"`}, false},
			{[]string{"**"}, true}, {[]string{"* *"}, true}, {[]string{"*a"}, true}, {[]string{"a*"}, true}, {[]string{"*;"}, true}, {[]string{"\\*"}, true}, {[]string{"*\x00"}, true}, {[]string{"a b"}, true}, {[]string{"\xff"}, true},
			{[]string{"a", "*"}, false}, {[]string{"*", "a"}, false}, {[]string{"a", "b"}, true}, {[]string{"", "*"}, false}, {[]string{`"`, `"`}, true}, {[]string{`"`, `", *`}, false}, {[]string{`"`, `*"`}, true}, {[]string{"a", `"`}, false}, {[]string{"a", "b", "*"}, false},
		} {
			parts := []string{"Cache-Control", "public"}
			for k, text := range c.texts {
				parts = append(parts, trial.Letters("Vary")[(i+k)%4], text, "X", "*")
			}
			may(t, get(), response(200, parts...), c.kept)
			may(t, get(), response(200, parts[2:]...), c.kept)
			may(t, get(parts[2:]...), response(200), true) // of the response alone
		}
	}
	for _, name := range trial.Nearly("Vary") {
		may(t, get(), response(200, name, "*"), true)
	}
}

func TestMayByAuthorization(t *testing.T) {
	for _, name := range trial.Letters("Authorization") {
		for _, value := range []string{"Basic YQ==", "", "\x00"} {
			for text, kept := range map[string]bool{
				"": false, "x": false, "max-age=5": false, "proxy-revalidate": false, "no-cache": false, "stale-while-revalidate=5": false, "stale-if-error=5": false, "only-if-cached": false, "min-fresh=5, max-stale=5": false,
				"proxy-revalidate, max-age=5, no-cache": false, `x="public"`: false,
				"public": true, "PUBLIC": true, "must-revalidate": true, "Must-Revalidate=x": true, "s-maxage=5": true, "s-maxage=0": true, "s-maxage": true, "s-maxage=x": true, "s-maxage=99999999999": true,
				"public, must-revalidate": true, "public, s-maxage=5": true, "must-revalidate, s-maxage=5": true, "public, must-revalidate, s-maxage=5": true, "max-age=5, public": true, "proxy-revalidate, must-revalidate": true, "max-age=5, proxy-revalidate, s-maxage=5": true,
				"public, private": false, "must-revalidate, no-store": false,
			} {
				may(t, get(name, value), response(200, "Cache-Control", text), kept)
				may(t, get("X", "1", name, value, name, value), response(200, "Expires", first, "cache-control", text), kept)
			}
			may(t, get(name, value), response(200), false)
			may(t, get(name, value), response(200, "Expires", first), false)
			may(t, get(name, value, "Cache-Control", "public, must-revalidate, s-maxage=5"), response(200), false) // what the response says counts
			may(t, get(), response(200, name, value), true)
		}
	}
	for _, name := range append(trial.Nearly("Authorization"), "Proxy-Authorization", "WWW-Authenticate") {
		may(t, get(name, "x"), response(200), true)
	}
	may(t, get("Authorization", "x"), response(403, "Cache-Control", "must-revalidate"), false) // open to all, and nothing says that it may be kept
	may(t, get("Authorization", "x"), response(404, "Cache-Control", "must-revalidate"), true)
}

func TestMayByWhatSaysHowLong(t *testing.T) {
	for _, code := range []int{201, 202, 205, 299, 302, 303, 307, 400, 403, 500, 503, 599} {
		may(t, get(), response(code), false)
		may(t, get(), api.Response{Code: code, Fields: []api.Field{}}, false)
		for _, name := range trial.Letters("Expires") {
			for _, text := range []string{first, "0", "", "never", "\x00", "Thu, 01 Jan 1970 00:00:00 GMT"} {
				may(t, get(), response(code, name, text), true)
				may(t, get(), response(code, "X", "1", name, text, "Expires", text), true)
			}
		}
		for _, text := range []string{"public", "max-age=5", "max-age=0", "max-age", "max-age=x", "s-maxage=5", "s-maxage=0", "s-maxage", "s-maxage=x", "max-age=99999999999", "PUBLIC=x", "x, public, max-age=5"} {
			may(t, get(), response(code, "Cache-Control", text), true)
		}
		for _, text := range []string{"", "x", "no-cache", "must-revalidate", "proxy-revalidate", "only-if-cached", "stale-while-revalidate=5", "stale-if-error=5", "min-fresh=5", "max-stale", "max-stale=5", `x="public"`, "no-cache, must-revalidate, proxy-revalidate, stale-while-revalidate=5, stale-if-error=5, min-fresh=5, max-stale=5, only-if-cached"} {
			may(t, get(), response(code, "Cache-Control", text), false)
			may(t, get(), response(404, "Cache-Control", text), true)
		}
		for _, name := range append(trial.Nearly("Expires"), "Date", "Last-Modified", "Age", "ETag") {
			may(t, get(), response(code, name, first), false)
		}
		may(t, get(), response(code, "Date", first, "Last-Modified", first, "Age", "5", "ETag", "a", "Pragma", "no-cache"), false)
		may(t, get("Expires", first, "Cache-Control", "public, max-age=5, s-maxage=5"), response(code), false) // of the response alone
	}
}

// requests are each list of at most two of some fields of a request.
func requests(see func(l []api.Field)) {
	trial.Lists(trial.Fields("Range", "bytes=0-1", "authorization", "x", "Cache-Control", "no-store", "cache-control", "max-age=0", "Vary", "*"), 2, see)
}

// answers are what the fields of a response are made of.
var answers = trial.Fields("Cache-Control", "public", "cache-control", "max-age=5", "Cache-Control", "s-maxage=5", "CACHE-CONTROL", "must-revalidate", "Cache-Control", "proxy-revalidate",
	"Cache-Control", "no-store", "Cache-Control", "private", "Expires", "", "expires", first, "Vary", "a", "VARY", "*", "vary", `"`, "Date", first, "Authorization", "x")

// codes are at the edges of what a code says, and some between.
var codes = []int{-1, 0, 199, 200, 201, 206, 299, 300, 303, 304, 305, 404, 599, 600}

// TestMayOfEachMixture holds each mixture of methods, codes and fields against the plain reading.
func TestMayOfEachMixture(t *testing.T) {
	hold := func(methods []string, asks, says []api.Field) {
		for _, method := range methods {
			for _, code := range codes {
				req, r := api.Request{Method: method, Fields: asks}, api.Response{Code: code, Fields: says}
				if want := plainMay(req, r); May(req, r) != want {
					t.Fatalf("May(%+v, %+v) is %v", req, r, !want)
				}
			}
		}
	}
	requests(func(asks []api.Field) {
		trial.Lists(answers, 2, func(says []api.Field) { hold([]string{"GET", "get", ""}, asks, says) })
	})
	for _, asks := range [][]api.Field{nil, trial.Fields("Authorization", ""), trial.Fields("RANGE", "")} {
		trial.Lists(answers, 3, func(says []api.Field) { hold([]string{"GET"}, asks, says) })
	}
}

// May hangs on nothing else that a request or a response has.
func TestMayHangsOnNothingElse(t *testing.T) {
	for _, l := range [][]api.Field{nil, answers[:1], answers[5:6]} {
		want := May(get(), api.Response{Code: 201, Fields: l})
		for _, n := range []int{low, -1, 0, 1, 2, high} {
			req := api.Request{Method: "GET", Target: "*", Minor: n, Fields: trial.Fields("Host", "no-store", "If-None-Match", "*", "Date", "x")}
			may(t, req, api.Response{Minor: n, Code: 201, Reason: "private", Fields: l}, want)
		}
	}
}

// P10.3

func TestRefresh(t *testing.T) {
	for _, c := range []struct{ l, news, want []api.Field }{
		{nil, nil, nil}, {[]api.Field{}, []api.Field{}, nil},
		{trial.Fields("A", "1", "B", "2"), nil, trial.Fields("A", "1", "B", "2")},
		{nil, trial.Fields("A", "1", "B", "2"), trial.Fields("A", "1", "B", "2")},
		{trial.Fields("A", "1", "B", "2"), trial.Fields("A", "3"), trial.Fields("B", "2", "A", "3")},
		{trial.Fields("A", "1", "B", "2"), trial.Fields("b", "3"), trial.Fields("A", "1", "b", "3")},
		{trial.Fields("ab", "1", "aB", "2", "X", "3", "AB", "4"), trial.Fields("Ab", "5"), trial.Fields("X", "3", "Ab", "5")},
		{trial.Fields("A", "1", "a", "2", "B", "3"), trial.Fields("a", "4", "C", "5", "A", "6"), trial.Fields("B", "3", "a", "4", "C", "5", "A", "6")},
		{trial.Fields("C", "1", "B", "2", "A", "3"), trial.Fields("F", "4", "E", "5", "D", "6"), trial.Fields("C", "1", "B", "2", "A", "3", "F", "4", "E", "5", "D", "6")},
		{trial.Fields("A", "1", "A", "1"), trial.Fields("B", "1", "B", "1"), trial.Fields("A", "1", "A", "1", "B", "1", "B", "1")},
		{trial.Fields("A", "1"), trial.Fields("A", "1"), trial.Fields("A", "1")},
		{trial.Fields("A", "1"), trial.Fields("A", ""), trial.Fields("A", "")},
		{trial.Fields("", "1", "A", "2"), trial.Fields("", "3"), trial.Fields("A", "2", "", "3")},
		{trial.Fields("\xc4", "1", "A ", "2"), trial.Fields("\xe4", "3", "A", "4"), trial.Fields("\xc4", "1", "A ", "2", "\xe4", "3", "A", "4")},
		{trial.Fields("Date", first, "ETag", "a", "Age", "5"), trial.Fields("date", later, "ETAG", "b"), trial.Fields("Age", "5", "date", later, "ETAG", "b")},
		{trial.Fields("Expires", first, "Cache-Control", "max-age=5", "cache-control", "public"), trial.Fields("Cache-Control", "no-store"), trial.Fields("Expires", first, "Cache-Control", "no-store")},
	} {
		refreshed(t, c.l, c.news, c.want)
	}
}

func TestRefreshLeavesWhatSpeaksOfTheBody(t *testing.T) {
	for _, plain := range five {
		for _, name := range trial.Letters(plain) {
			for _, other := range trial.Letters(plain) {
				refreshed(t, trial.Fields("A", "1", name, "2", "B", "3"), nil, trial.Fields("A", "1", name, "2", "B", "3"))
				refreshed(t, trial.Fields("A", "1", name, "2", "B", "3"), trial.Fields("C", "4"), trial.Fields("A", "1", name, "2", "B", "3", "C", "4"))
				refreshed(t, trial.Fields("A", "1"), trial.Fields(name, "2", "A", "3", other, "4"), trial.Fields("A", "3"))
				refreshed(t, nil, trial.Fields(name, "2"), nil)
				refreshed(t, trial.Fields(name, "2"), trial.Fields(other, "4"), trial.Fields(name, "2"))
				refreshed(t, trial.Fields("A", "1", name, "2", "B", "3", other, ""), trial.Fields("B", "4", other, "5", "C", "6", name, "7"), trial.Fields("A", "1", name, "2", other, "", "B", "4", "C", "6"))
			}
		}
		for _, name := range trial.Nearly(plain) {
			refreshed(t, trial.Fields("A", "1", name, "2"), trial.Fields(name, "4"), trial.Fields("A", "1", name, "4"))
		}
	}
	for _, name := range []string{"Content-Location", "Content-Language", "Content-MD5", "Content-Disposition", "Content", "Length", "ETag", "Last-Modified"} {
		refreshed(t, trial.Fields("A", "1", name, "2"), trial.Fields(name, "4"), trial.Fields("A", "1", name, "4"))
	}
}

func TestRefreshLeavesWhatIsForOneConnection(t *testing.T) {
	for _, plain := range seven {
		for _, name := range trial.Letters(plain) {
			refreshed(t, trial.Fields("A", "1", plain, "2"), trial.Fields(name, "x", "B", "4"), trial.Fields("A", "1", plain, "2", "B", "4"))
			refreshed(t, trial.Fields("A", "1"), trial.Fields(name, "x", "B", "4"), trial.Fields("A", "1", "B", "4"))
		}
	}
	for _, connection := range trial.Letters("Connection") {
		refreshed(t, trial.Fields("X", "1", "Y", "2"), trial.Fields(connection, "close, X", "x", "3", "y", "4"), trial.Fields("X", "1", "y", "4"))
		refreshed(t, trial.Fields("X", "1", "Y", "2"), trial.Fields("x", "3", "y", "4", connection, "X", connection, "y"), trial.Fields("X", "1", "Y", "2"))
		refreshed(t, trial.Fields("X", "1"), trial.Fields("x", "3", connection, "X, a b"), trial.Fields("x", "3")) // names that are none
		refreshed(t, trial.Fields("X", "1"), trial.Fields("x", "3", connection, `X, "`), trial.Fields("x", "3"))
		refreshed(t, trial.Fields("X", "1", connection, "Z", "Z", "2"), trial.Fields("x", "3"), trial.Fields(connection, "Z", "Z", "2", "x", "3")) // of the stored one it takes nothing away
		refreshed(t, trial.Fields("ETag", "a"), trial.Fields(connection, "ETag", "ETag", "b"), trial.Fields("ETag", "a"))
		refreshed(t, trial.Fields("Content-Type", "a"), trial.Fields(connection, "Content-Type", "Content-Type", "b"), trial.Fields("Content-Type", "a"))
		refreshed(t, nil, trial.Fields(connection, "Content-Type", "Content-Type", "b"), nil)
	}
}

// TestRefreshOfEachMixture holds each pair of short lists against the plain reading.
func TestRefreshOfEachMixture(t *testing.T) {
	stored := trial.Fields("A", "1", "a", "2", "Content-Type", "3", "Transfer-Encoding", "4", "connection", "B", "Date", first)
	news := trial.Fields("a", "5", "B", "6", "content-type", "7", "TRANSFER-ENCODING", "8", "Connection", "A", "Connection", "Content-TYPE, x y", "date", later)
	trial.Lists(stored, 3, func(l []api.Field) {
		trial.Lists(news, 3, func(news []api.Field) {
			want := plainFields(l, news)
			m, told := Refresh(api.Meta{Code: 404}, l, api.Response{Code: 304, Fields: news}, -1, 9)
			if !slices.Equal(told, want) {
				t.Fatalf("Refresh of %q by %q tells %q, not %q", l, news, told, want)
			}
			if known := plainOf(api.Response{Code: 404, Fields: want}, -1, 9); m != known {
				t.Fatalf("Refresh of %q by %q tells %+v, not %+v", l, news, m, known)
			}
		})
	})
}

// The Code is the stored one's; of all else that was known of it nothing counts, nor does it of the new one's head.
func TestRefreshTellsAnew(t *testing.T) {
	l := trial.Fields("Date", first, "Cache-Control", "max-age=5", "ETag", "a", "Age", "7", "Last-Modified", "x")
	news := trial.Fields("Date", later, "Cache-Control", "public", "Expires", "x")
	edges := []int{low, -1, 0, 1, 200, 206, 304, 404, 600, high}
	for _, code := range edges {
		for _, n := range edges {
			want := trial.Meta(func(m *api.Meta) {
				m.Code, m.Date, m.Expires, m.Age, m.Tag, m.Asked, m.Got = code, second+1, 0, 7, "a", n, code
				m.Control.Public = true
			})
			for _, before := range []api.Meta{{Code: code}, trial.Meta(func(m *api.Meta) { m.Code = code }), {Code: code, Control: api.Control{NoStore: true, Private: true, Age: n}, Date: n, Expires: n, Modified: n, Age: n, Asked: n, Got: n, Tag: "old"}} {
				m, fields := Refresh(before, l, api.Response{Minor: n, Code: n, Reason: "R", Fields: news}, n, code)
				if m != want || !slices.Equal(fields, append(trial.Fields("ETag", "a", "Age", "7", "Last-Modified", "x"), news...)) {
					t.Errorf("Refresh of %+v tells %+v and %q", before, m, fields)
				}
			}
		}
	}
}

// Behind a Refresh the same 304 changes nothing.
func TestRefreshTwice(t *testing.T) {
	trial.Lists(trial.Fields("A", "1", "b", "2", "Content-Type", "3", "TE", "4"), 3, func(l []api.Field) {
		trial.Lists(trial.Fields("a", "5", "B", "6", "Content-Range", "7", "Connection", "B"), 3, func(news []api.Field) {
			m, once := Refresh(known(200), l, api.Response{Fields: news}, 1, 2)
			again, twice := Refresh(m, once, api.Response{Fields: news}, 1, 2)
			if again != m || !slices.Equal(once, twice) {
				t.Errorf("%q by %q is %q, then %q", l, news, once, twice)
			}
		})
	})
}

// P10.4

// TestNeverAndAlways puts one field more to each mixture: no-store, private and Vary * bar it, public lets it in where nothing bars it.
func TestNeverAndAlways(t *testing.T) {
	nevers := trial.Fields("Cache-Control", "no-store", "cache-control", "public, No-Store", "Cache-Control", "private", "Cache-Control", `PRIVATE="a", s-maxage=5`, "Vary", "*", "vary", "a, *")
	requests(func(asks []api.Field) {
		req := api.Request{Method: "GET", Fields: asks}
		bars := control.Of(asks).NoStore
		trial.Lists(answers, 2, func(says []api.Field) {
			quoted := strings.Contains(strings.Join(trial.Values(says, "vary"), ""), `"`) // it may have a * within
			for _, never := range nevers {
				for _, l := range [][]api.Field{append([]api.Field{never}, says...), append(slices.Clone(says), never)} {
					if !(quoted && trial.Small(never.Name) == "vary") && May(req, api.Response{Code: 200, Fields: l}) {
						t.Fatalf("with %q it is stored", l)
					}
				}
			}
			for _, code := range codes {
				r := api.Response{Code: code, Fields: append(slices.Clone(says), api.Field{Name: "Cache-Control", Value: "public"})}
				c := control.Of(r.Fields)
				list, ok := elements(r.Fields, "vary")
				bars := bars || c.NoStore || c.Private || !ok || slices.Contains(list, "*")
				parts := len(trial.Values(asks, "range")) > 0 && code > 200 && code < 300 && code != 206
				if want := !bars && !parts && code >= 200 && code <= 599 && code != 304; May(req, r) != want {
					t.Fatalf("to %q a %d with %q: %v", asks, code, r.Fields, !want)
				}
			}
		})
	})
}

// Rules that hold everywhere

// shares tells whether two texts have bytes in common memory.
func shares(a, b string) bool {
	if a == "" || b == "" {
		return false
	}
	x, y := uintptr(unsafe.Pointer(unsafe.StringData(a))), uintptr(unsafe.Pointer(unsafe.StringData(b)))
	return x < y+uintptr(len(b)) && y < x+uintptr(len(a))
}

// What is told is new: lists and texts, also where they are as they were.
func TestWhatIsToldIsNew(t *testing.T) {
	l := trial.Fields("Stored-Name", "stored value", "ETag", `"a"`, "Content-Type", "text/plain")
	news := trial.Fields("New-Name", "new value", "Other-Name", "other value", "Connection", "close")
	m, fields := Refresh(known(200), l, api.Response{Fields: news}, 1, 2)
	of := Of(api.Response{Fields: l}, 1, 2)
	if len(fields) != 5 || m.Tag != `"a"` || of.Tag != `"a"` {
		t.Fatalf("%q, %+v, %+v", fields, m, of)
	}
	for _, given := range append(slices.Clone(l), news...) {
		for _, f := range append(slices.Clone(fields), api.Field{Name: m.Tag, Value: of.Tag}) {
			if shares(f.Name, given.Name) || shares(f.Name, given.Value) || shares(f.Value, given.Name) || shares(f.Value, given.Value) {
				t.Errorf("%q shares its bytes with %q", f, given)
			}
		}
	}
	for _, f := range fields {
		if shares(m.Tag, f.Value) {
			t.Errorf("the tag shares its bytes with %q", f)
		}
	}
	second, again := Refresh(known(200), l, api.Response{Fields: news}, 1, 2)
	want := slices.Clone(again)
	for i := range fields {
		fields[i] = api.Field{Name: "Written", Value: "over"}
	}
	_ = append(fields, api.Field{Name: "Written", Value: "behind"})
	if second != m || !slices.Equal(again, want) {
		t.Errorf("%q became %q", want, again)
	}
}

// TestWrong hands in names and values of all bytes, and lists that are long.
func TestWrong(t *testing.T) {
	every := ""
	for c := range 256 {
		every += trial.Byte(c)
		for _, name := range []string{"Date", "Expires", "Last-Modified", "Age", "ETag", "Cache-Control", "Vary", "Pragma", "Connection", every} {
			for _, value := range []string{every, every[c:], "5," + every[c:], first + every[c:]} {
				l := trial.Fields(name, value, every, "1")
				r := api.Response{Code: 200, Fields: l}
				is(t, r, 3, 5, plainOf(r, 3, 5))
				req := api.Request{Method: "GET", Fields: l}
				may(t, req, r, plainMay(req, r))
				refreshed(t, l, trial.Fields(every, "2"), plainFields(l, trial.Fields(every, "2")))
				refreshed(t, trial.Fields(every, "2"), l, plainFields(trial.Fields(every, "2"), l))
			}
		}
	}
	var many, others []api.Field
	for i := range 1 << 16 {
		name := "A" + strconv.Itoa(i)
		many, others = append(many, api.Field{Name: name, Value: "1"}), append(others, api.Field{Name: name + "-", Value: "2"})
	}
	if _, told := Refresh(known(200), many, api.Response{Fields: others}, 1, 2); len(told) != 2<<16 {
		t.Error(len(told))
	}
	if _, told := Refresh(known(200), append(many, others...), api.Response{Fields: others}, 1, 2); !slices.Equal(told, append(many, others...)) {
		t.Error(len(told))
	}
}

// What is told hangs on what is handed in alone, however many ask at one time.
func TestManyAtOneTime(t *testing.T) {
	r := response(404, "Date", first, "Cache-Control", "max-age=5, public", "Vary", "a", "ETag", "b", "Age", "6")
	news := response(304, "Date", later, "Connection", "ETag", "ETag", "c")
	want, wantFields := Refresh(plainOf(r, 1, 2), r.Fields, news, 3, 4)
	var all sync.WaitGroup
	for range 8 {
		all.Go(func() {
			for range 500 {
				m := Of(r, 1, 2)
				if m != plainOf(r, 1, 2) || !May(get("Authorization", "x"), r) || May(get("Cache-Control", "no-store"), r) {
					t.Errorf("%+v", m)
				}
				if m, fields := Refresh(m, r.Fields, news, 3, 4); m != want || !slices.Equal(fields, wantFields) {
					t.Errorf("%+v, %q", m, fields)
				}
			}
		})
	}
	all.Wait()
}
