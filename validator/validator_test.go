package validator

import (
	"math"
	"regexp"
	"slices"
	"strings"
	"sync"
	"testing"
	"unsafe"

	"gatepost/api"
	"gatepost/date"
	"gatepost/token"
	"gatepost/trial"
)

const (
	low  = math.MinInt
	high = math.MaxInt
	last = 253402300799 // the last second that a date can tell
)

// A second in each form of a date, and those beside it.
const (
	second = 784111777
	first  = "Sun, 06 Nov 1994 08:49:37 GMT"
	long   = "Sunday, 06-Nov-94 08:49:37 GMT"
	short  = "Sun Nov  6 08:49:37 1994"
	sooner = "Sun, 06 Nov 1994 08:49:36 GMT"
	later  = "Sun, 06 Nov 1994 08:49:38 GMT"
	zero   = "Thu, 01 Jan 1970 00:00:00 GMT"
	end    = "Fri, 31 Dec 9999 23:59:59 GMT"
)

// seconds are a Meta's, told ones and others.
var seconds = []int{low, low + 1, -second, -2, -1, 0, 1, second - 1, second, second + 1, last - 1, last, last + 1, last + 86400, api.MaxTime, high - 1, high}

// tags are texts that are tags.
var tags = []string{`"a"`, `W/"a"`, `"A"`, `W/"A"`, `""`, `W/""`, `"b"`, `W/"b"`, `"a,b"`, `"*"`, `"W/"`, `W/"W/"`, `"W/a"`, `"'"`, `"/"`, "\"\xff\x80\"", "W/\"\u00e4\"", `"!#$%&'()*+,-./0123456789:;<=>?@[]^_` + "`" + `{|}~"`}

// nones are texts that are no tags.
var nones = []string{
	"", `"`, "W/", `W/"`, "W", "/", "*", "a", "W/a", "W/*", `'a'`, `"a`, `a"`, `W/"a`, `W/a"`, `"a" `, ` "a"`, "\t\"a\"", "\"a\"\t", `W/"a" `, ` W/"a"`,
	`W/ "a"`, `W /"a"`, `W"a"`, `/"a"`, `W\"a"`, `WW/"a"`, `W//"a"`, `W/W/"a"`, `w/"a"`, `w/""`, `w/"`, `V/"a"`, `"W/"a"`, `"W"/"a"`, `"W/""a"`, `"a"W/`, `W/"a"W/`,
	`"a b"`, `" "`, `" a"`, `"a "`, "\"\t\"", "\"a\tb\"", `W/"a b"`, `"""`, `""""`, `"a""`, `""a"`, `"a"b"`, `"a"b`, `"a"a`, `W/"a"b`, `W/"""`, `""a`, `"" `, `"a",`, `,"a"`, `"a","b"`, `"a", "b"`, `"a""b"`,
	`"\"`, `"\\"`, `"\""`, `"a\"`, `"a\b"`, `"a\"b"`, `W/"\"`, `W/"a\\"`, "\"\x00\"", "\"\n\"", "\"\r\"", "\"a\x1f\"", "\"\x7f\"", "W/\"a\x7f\"", "\x00\"a\"", "\"a\"\x00", "\xff", "\u201ca\u201d",
}

// tagForm is a tag as the chapter tells it, in characters that are a byte each.
var tagForm = regexp.MustCompile("^(W/)?\"([\\x21\\x23-\\x5b\\x5d-\\x7e\u0080-\u00ff]*)\"$")

// plainParse is a plain reading of P12.1.
func plainParse(s string) (Tag, bool) {
	parts := tagForm.FindStringSubmatch(trial.Wide(s))
	if parts == nil {
		return Tag{}, false
	}
	return Tag{Weak: parts[1] != "", Text: trial.Narrow(parts[2])}, true
}

// plainUnchanged is a plain reading of P12.2.
func plainUnchanged(req api.Request, m api.Meta) bool {
	if req.Method != "GET" && req.Method != "HEAD" {
		return false
	}
	own, has := plainParse(m.Tag)
	if texts := trial.Values(req.Fields, "if-none-match"); len(texts) > 0 {
		text := strings.Join(texts, ", ")
		list, ok := token.Split(text)
		for _, e := range list {
			if tag, is := plainParse(e); ok && is && has && tag.Text == own.Text {
				return true
			}
		}
		return text == "*"
	}
	texts := trial.Values(req.Fields, "if-modified-since")
	if len(texts) != 1 || m.Modified < 0 {
		return false
	}
	sec, ok := date.Parse(texts[0])
	return ok && m.Modified <= sec
}

// plainApplies is a plain reading of P12.3.
func plainApplies(req api.Request, m api.Meta) bool {
	if req.Method != "GET" || len(trial.Values(req.Fields, "range")) != 1 {
		return false
	}
	texts := trial.Values(req.Fields, "if-range")
	if len(texts) != 1 {
		return len(texts) == 0
	}
	tag, ok := plainParse(texts[0])
	if own, has := plainParse(m.Tag); ok && has {
		return tag.Text == own.Text && !tag.Weak && !own.Weak
	}
	sec, ok := date.Parse(texts[0])
	return ok && sec == m.Modified
}

// plainAsks is a plain reading of P12.4.
func plainAsks(m api.Meta) []api.Field {
	var l []api.Field
	if _, ok := plainParse(m.Tag); ok {
		l = append(l, api.Field{Name: "If-None-Match", Value: m.Tag})
	}
	if m.Modified >= 0 && m.Modified <= last {
		l = append(l, api.Field{Name: "If-Modified-Since", Value: date.Format(m.Modified)})
	}
	return l
}

func request(method string, parts ...string) api.Request {
	return api.Request{Method: method, Target: "/", Minor: 1, Fields: trial.Fields(parts...)}
}

func get(parts ...string) api.Request { return request("GET", parts...) }

// meta is one of which just a tag and a second are known.
func meta(tag string, modified int) api.Meta {
	return trial.Meta(func(m *api.Meta) { m.Tag, m.Modified = tag, modified })
}

func parses(t *testing.T, s string, want Tag, wantOk bool) {
	t.Helper()
	if tag, ok := Parse(s); tag != want || ok != wantOk {
		t.Errorf("Parse(%q) = %+v, %v, not %+v, %v", s, tag, ok, want, wantOk)
	}
}

// asParsed holds a text against the plain reading.
func asParsed(t *testing.T, s string) {
	t.Helper()
	want, ok := plainParse(s)
	parses(t, s, want, ok)
}

func compares(t *testing.T, a, b Tag, strong, weak bool) {
	t.Helper()
	if Strong(a, b) != strong || Strong(b, a) != strong {
		t.Errorf("Strong of %+v and %+v is not %v", a, b, strong)
	}
	if Weak(a, b) != weak || Weak(b, a) != weak {
		t.Errorf("Weak of %+v and %+v is not %v", a, b, weak)
	}
}

// says asks a question of a request whose fields have spare room behind them, and looks whether all reads as before.
func says(t *testing.T, what string, asked func(api.Request, api.Meta) bool, req api.Request, m api.Meta, want bool) {
	t.Helper()
	var ok bool
	whole := trial.Untouched(req.Fields, func(l []api.Field) []api.Field {
		req.Fields = l
		ok = asked(req, m)
		return nil
	})
	if ok != want {
		t.Errorf("%s is %v: %s with %q, of the tag %q and the second %d", what, ok, req.Method, req.Fields, m.Tag, m.Modified)
	}
	if !whole {
		t.Errorf("%s changed %q, or what lies behind it", what, req.Fields)
	}
}

// unchanged asks for a GET and a HEAD of the same fields.
func unchanged(t *testing.T, l []api.Field, m api.Meta, want bool) {
	t.Helper()
	for _, method := range []string{"GET", "HEAD"} {
		says(t, "Unchanged", Unchanged, api.Request{Method: method, Target: "/", Minor: 1, Fields: l}, m, want)
	}
}

func applies(t *testing.T, req api.Request, m api.Meta, want bool) {
	t.Helper()
	says(t, "Applies", Applies, req, m, want)
}

func asks(t *testing.T, m api.Meta, want ...string) {
	t.Helper()
	if l := Asks(m); !slices.Equal(l, trial.Fields(want...)) {
		t.Errorf("Asks(%+v) = %q, not %q", m, l, want)
	}
}

func TestExample(t *testing.T) {
	parses(t, `W/"a"`, Tag{Weak: true, Text: "a"}, true)
	unchanged(t, trial.Fields("If-None-Match", `"x", W/"a"`), meta(`"a"`, -1), true)
}

// P12.1

func TestParse(t *testing.T) {
	for _, text := range []string{"a", "A", "", "W", "W/", "w/", "*", ",", "a,b", "a,", "'", "!", "#", "[", "]", "~", "\x80", "\xff", "\u00e4", "\xe4\xff", "0", "737060cd8c284d8af7ad3082f209582d", strings.Repeat("a", 1<<16)} {
		parses(t, `"`+text+`"`, Tag{Text: text}, true)
		parses(t, `W/"`+text+`"`, Tag{Weak: true, Text: text}, true)
	}
	for _, s := range tags {
		weak := strings.HasPrefix(s, "W")
		parses(t, s, Tag{Weak: weak, Text: s[strings.Index(s, `"`)+1 : len(s)-1]}, true)
	}
	parses(t, `""`, Tag{}, true)
	parses(t, `W/""`, Tag{Weak: true}, true)
}

func TestParseOfNone(t *testing.T) {
	for _, s := range nones {
		parses(t, s, Tag{}, false)
	}
	parses(t, strings.Repeat(`"`, 1<<16), Tag{}, false)
	parses(t, strings.Repeat("W/", 1<<16)+`"a"`, Tag{}, false)
	parses(t, `"`+strings.Repeat("a", 1<<16)+` "`, Tag{}, false)
}

func TestParseOfEachByte(t *testing.T) {
	for c := range 256 {
		good := c == 33 || c >= 35 && c <= 91 || c >= 93 && c <= 126 || c >= 128
		for _, text := range []string{trial.Byte(c), "a" + trial.Byte(c), trial.Byte(c) + "a", "a" + trial.Byte(c) + "b", strings.Repeat(trial.Byte(c), 5)} {
			if good {
				parses(t, `"`+text+`"`, Tag{Text: text}, true)
				parses(t, `W/"`+text+`"`, Tag{Weak: true, Text: text}, true)
			} else {
				parses(t, `"`+text+`"`, Tag{}, false)
				parses(t, `W/"`+text+`"`, Tag{}, false)
			}
			parses(t, text+`"a"`, Tag{}, false)
			parses(t, `"a"`+text, Tag{}, false)
		}
		if c != '/' {
			parses(t, "W"+trial.Byte(c)+`"a"`, Tag{}, false)
		}
		if c != 'W' {
			parses(t, trial.Byte(c)+`/"a"`, Tag{}, false)
		}
	}
}

func TestParseOfEachChange(t *testing.T) {
	for _, s := range []string{`""`, `"a"`, `"ab"`, `W/""`, `W/"a"`, `W/"ab"`, `"W/a"`, "\"\xff\"", `W/"a" `, `"a","b"`} {
		trial.Changed(s, func(s string) { asParsed(t, s) })
	}
}

func TestParseOfEachText(t *testing.T) {
	trial.Texts([]string{`"`, "W", "/", "W/", "w", "a", `\`, " ", ",", "\xff"}, 5, func(s string) { asParsed(t, s) })
}

func TestStrongAndWeak(t *testing.T) {
	a, weakA := Tag{Text: "a"}, Tag{Weak: true, Text: "a"}
	compares(t, a, a, true, true)
	compares(t, a, Tag{Text: strings.Repeat("a", 1)}, true, true)
	compares(t, a, weakA, false, true)
	compares(t, weakA, weakA, false, true)
	for _, other := range []string{"b", "A", "", "aa", "a ", " a", "W/a", `"a"`, "\x00", "\xe1", "a\x00"} {
		compares(t, a, Tag{Text: other}, false, false)
		compares(t, a, Tag{Weak: true, Text: other}, false, false)
		compares(t, weakA, Tag{Text: other}, false, false)
		compares(t, weakA, Tag{Weak: true, Text: other}, false, false)
	}
	compares(t, Tag{}, Tag{}, true, true)
	compares(t, Tag{}, Tag{Weak: true}, false, true)
	compares(t, Tag{Weak: true}, Tag{Weak: true}, false, true)
}

// TestEachPairOfTags holds tags of any texts, also of those that no tag has, against what the chapter says.
func TestEachPairOfTags(t *testing.T) {
	var of []Tag
	for _, text := range append(append([]string{"a", "b", "ab", "AB", "W/\"a\"", "\xff", "\xdf"}, tags...), nones...) {
		of = append(of, Tag{Text: text}, Tag{Weak: true, Text: text})
	}
	for _, a := range of {
		for _, b := range of {
			alike := a.Text == b.Text
			compares(t, a, b, alike && !a.Weak && !b.Weak, alike)
		}
	}
}

// P12.2

func TestUnchangedByMethod(t *testing.T) {
	m := meta(`"a"`, second)
	for _, l := range [][]api.Field{trial.Fields("If-None-Match", "*"), trial.Fields("If-None-Match", `"a"`), trial.Fields("If-Modified-Since", first)} {
		for _, method := range []string{"GET", "HEAD"} {
			says(t, "Unchanged", Unchanged, api.Request{Method: method, Target: "\x00", Minor: low, Fields: l}, m, true)
		}
		for _, method := range []string{"get", "head", "Get", "Head", "GEt", "hEAD", "POST", "PUT", "DELETE", "PURGE", "OPTIONS", "TRACE", "CONNECT", "PATCH", "", "GET ", " GET", "HEAD ", "GE", "GETS", "HEA", "HEADS", "G", "GET,HEAD", "GETHEAD", "*", "\x00\xff"} {
			says(t, "Unchanged", Unchanged, api.Request{Method: method, Target: "/", Minor: 1, Fields: l}, m, false)
		}
	}
}

func TestUnchangedByNothing(t *testing.T) {
	for _, l := range [][]api.Field{nil, {}, trial.Fields("X", "*", "ETag", `"a"`, "If-Match", `"a"`, "If-Unmodified-Since", first, "If-Range", `"a"`, "Last-Modified", first)} {
		for _, tag := range append(slices.Clone(nones), tags...) {
			unchanged(t, l, meta(tag, -1), false)
			unchanged(t, l, meta(tag, 0), false)
			unchanged(t, l, meta(tag, second), false)
		}
	}
	if Unchanged(api.Request{}, api.Meta{}) || Applies(api.Request{}, api.Meta{}) {
		t.Error("of nothing")
	}
}

// listed are the texts of If-None-Match's fields, with the tag that is had, and whether the response is unchanged.
var listed = []struct {
	texts []string
	tag   string
	want  bool
}{
	{[]string{`"a"`}, `"a"`, true}, {[]string{`W/"a"`}, `"a"`, true}, {[]string{`"a"`}, `W/"a"`, true}, {[]string{`W/"a"`}, `W/"a"`, true},
	{[]string{`"b"`}, `"a"`, false}, {[]string{`"A"`}, `"a"`, false}, {[]string{`W/"b"`}, `W/"a"`, false}, {[]string{`"ab"`}, `"a"`, false}, {[]string{`"a"`}, `"ab"`, false},
	{[]string{`""`}, `""`, true}, {[]string{`W/""`}, `""`, true}, {[]string{`""`}, `W/""`, true}, {[]string{`""`}, `"a"`, false}, {[]string{`"a"`}, `""`, false}, {[]string{`""`}, "", false},
	{[]string{""}, `"a"`, false}, {[]string{""}, "", false}, {[]string{""}, `""`, false}, {[]string{","}, `","`, false}, {[]string{" , ,\t"}, `"a"`, false},
	{[]string{`"x", W/"a"`}, `"a"`, true}, {[]string{`"a", "x"`}, `"a"`, true}, {[]string{`"x","a","y"`}, `"a"`, true}, {[]string{`"x","y","z"`}, `"a"`, false}, {[]string{`W/"x" , W/"a"`}, `W/"a"`, true},
	{[]string{` "a"`}, `"a"`, true}, {[]string{"\"a\"\t"}, `"a"`, true}, {[]string{",,\"a\""}, `"a"`, true}, {[]string{" , \"a\" ,"}, `"a"`, true},
	{[]string{`a, "a"`}, `"a"`, true}, {[]string{`"a", a`}, `"a"`, true}, {[]string{`x y, "a", z;z`}, `"a"`, true}, {[]string{`"a" b, "a"`}, `"a"`, true}, {[]string{`w/"a", W/"a"`}, `"a"`, true}, {[]string{"\x00, \"a\""}, `"a"`, true},
	{[]string{"a"}, `"a"`, false}, {[]string{"a"}, "a", false}, {[]string{`w/"a"`}, `"a"`, false}, {[]string{`w/"a"`}, `w/"a"`, false}, {[]string{`'a'`}, `'a'`, false}, {[]string{`"a" b`}, `"a"`, false}, {[]string{`"a""a"`}, `"a"`, false}, {[]string{`a="a"`}, `"a"`, false}, {[]string{`W/W/"a"`}, `"a"`, false}, {[]string{`W/ "a"`}, `"a"`, false},
	{[]string{"*"}, `"a"`, true}, {[]string{"*"}, "", true}, {[]string{"*"}, "a", true}, {[]string{"*"}, "*", true}, {[]string{"*"}, `W/"a"`, true},
	{[]string{" *"}, `"a"`, false}, {[]string{"* "}, `"a"`, false}, {[]string{"\t*\t"}, `"a"`, false}, {[]string{" *"}, "", false}, {[]string{"*,"}, `"a"`, false}, {[]string{",*"}, `"a"`, false}, {[]string{"*, *"}, `"a"`, false}, {[]string{"**"}, `"a"`, false}, {[]string{"W/*"}, `"a"`, false},
	{[]string{`*, "b"`}, `"a"`, false}, {[]string{`"b", *`}, `"a"`, false}, {[]string{`*, "a"`}, `"a"`, true}, {[]string{`"a", *`}, `"a"`, true}, {[]string{`*, "a"`}, "a", false},
	{[]string{`"*"`}, `"a"`, false}, {[]string{`"*"`}, `"*"`, true}, {[]string{`W/"*"`}, `"*"`, true}, {[]string{"*"}, `"*"`, true}, {[]string{`"*"`}, "*", false},
	{[]string{`"a,b"`}, `"a,b"`, true}, {[]string{`"a,b"`}, `"a"`, false}, {[]string{`"a", "a,b"`}, `W/"a,b"`, true}, {[]string{`","`}, `","`, true}, {[]string{`"a, b"`}, `"a, b"`, false}, {[]string{`"a b"`}, `"a b"`, false},
	{[]string{`"a`}, `"a"`, false}, {[]string{`"a", "`}, `"a"`, false}, {[]string{`"a", "b`}, `"a"`, false}, {[]string{`", "a"`}, `"a"`, false}, {[]string{`"`}, `"`, false}, {[]string{`"a", "\"`}, `"a"`, false}, {[]string{`"a\", "a"`}, `"a"`, false}, {[]string{`"a", b"`}, `"a"`, false}, {[]string{`*, "`}, `"a"`, false},
	{[]string{`"a\"", "a"`}, `"a"`, true}, {[]string{`"\\", "a"`}, `"a"`, true}, {[]string{`"\"`}, `"\"`, false}, {[]string{`"\\"`}, `"\\"`, false}, {[]string{`\"a\"`}, `"a"`, false}, {[]string{`\, "a"`}, `"a"`, true},
	{[]string{`"a"`}, "a", false}, {[]string{`"a"`}, "", false}, {[]string{`"a"`}, "*", false}, {[]string{`"a"`}, ` "a"`, false}, {[]string{`"a"`}, `"a" `, false}, {[]string{`"a"`}, `"a", "a"`, false}, {[]string{`"a", "b"`}, `"a", "b"`, false}, {[]string{`"a"`}, `"a`, false}, {[]string{`W/"a"`}, `w/"a"`, false}, {[]string{`""`}, `"`, false},
	{[]string{`"x"`, `"a"`}, `"a"`, true}, {[]string{`"a"`, `"x"`}, `"a"`, true}, {[]string{`"x"`, `"y", W/"a"`, `"z"`}, `"a"`, true}, {[]string{`"x"`, `"y"`}, `"a"`, false}, {[]string{"", `"a"`}, `"a"`, true}, {[]string{`"a"`, ""}, `"a"`, true}, {[]string{"", ""}, "", false}, {[]string{"x", `"a"`}, `"a"`, true},
	{[]string{"*", "*"}, `"a"`, false}, {[]string{"*", ""}, `"a"`, false}, {[]string{"", "*"}, `"a"`, false}, {[]string{"*", `"a"`}, `"a"`, true}, {[]string{`"b"`, "*"}, `"a"`, false},
	{[]string{`"a"`, `"`}, `"a"`, false}, {[]string{`"`, `"a"`}, `"a"`, false}, {[]string{`"a`, `b"`}, `"a, b"`, false}, {[]string{`"`, `"`}, `", "`, false}, {[]string{`"x`, `y", "a"`}, `"a"`, true},
	{[]string{"\"\xff\""}, "\"\xff\"", true}, {[]string{"\"\xc4\""}, "\"\xe4\"", false}, {[]string{"\"\u00e4\", \"\xe4\""}, "\"\xe4\"", true},
}

func TestUnchangedByTags(t *testing.T) {
	names, since := trial.Letters("If-None-Match"), trial.Letters("If-Modified-Since")
	for _, c := range listed {
		for i := range names {
			l := trial.Fields("Accept", c.tag)
			for k, text := range c.texts {
				l = append(l, api.Field{Name: names[(i+k)%len(names)], Value: text}, api.Field{Name: trial.Nearly("If-None-Match")[i], Value: "*"})
			}
			for _, modified := range []int{-1, 0, second} { // what stands beside a tag's condition says nothing
				m := meta(c.tag, modified)
				unchanged(t, l, m, c.want)
				unchanged(t, append(trial.Fields(since[i], later), l...), m, c.want)
				unchanged(t, append(l[:len(l):len(l)], trial.Fields(since[i], zero)...), m, c.want)
				unchanged(t, append(l[:len(l):len(l)], trial.Fields(since[i], "never", "X", "*")...), m, c.want)
			}
		}
	}
}

// TestUnchangedByEachTag asks with each tag, and with each text that is none, for each other one.
func TestUnchangedByEachTag(t *testing.T) {
	for _, own := range append(slices.Clone(nones), tags...) {
		for _, other := range tags {
			tag, _ := plainParse(own)
			sent, _ := plainParse(other)
			want := slices.Contains(tags, own) && tag.Text == sent.Text
			unchanged(t, trial.Fields("If-None-Match", other), meta(own, -1), want)
			unchanged(t, trial.Fields("If-None-Match", `"none", `+other+`,w/"w"`), meta(own, second), want)
		}
		for _, other := range nones {
			unchanged(t, trial.Fields("If-None-Match", other), meta(own, -1), plainUnchanged(get("If-None-Match", other), meta(own, -1)))
		}
	}
}

// Fields of other names are no condition, and leave the one on the date as it is.
func TestUnchangedByOtherNames(t *testing.T) {
	for _, name := range append(trial.Nearly("If-None-Match"), "If-Match", "ETag", "If-Range") {
		for _, text := range []string{"*", `"a"`, "", `"b"`} {
			unchanged(t, trial.Fields(name, text), meta(`"a"`, second), false)
			unchanged(t, trial.Fields(name, text, "If-Modified-Since", first), meta(`"a"`, second), true)
			unchanged(t, trial.Fields("If-Modified-Since", sooner, name, text), meta(`"a"`, second), false)
			unchanged(t, trial.Fields(name, text, "if-none-match", `"b"`, name, text), meta(`"a"`, second), false)
			unchanged(t, trial.Fields(name, text, "if-none-match", `"b"`, name, text), meta(`"b"`, second), true)
		}
	}
	for _, name := range append(trial.Nearly("If-Modified-Since"), "If-Unmodified-Since", "Last-Modified", "Date", "If-Range") {
		unchanged(t, trial.Fields(name, first), meta(`"a"`, second), false)
		unchanged(t, trial.Fields(name, first, "If-Modified-Since", first, name, first), meta(`"a"`, second), true)
	}
}

// dates are texts of If-Modified-Since, with the second that each tells; -1: none.
var dates = []struct {
	text string
	sec  int
}{
	{first, second}, {long, second}, {short, second}, {sooner, second - 1}, {later, second + 1}, {zero, 0}, {"Thu Jan  1 00:00:00 1970", 0}, {"Thursday, 01-Jan-70 00:00:00 GMT", 0},
	{end, last}, {"Fri Dec 31 23:59:59 9999", last}, {"Sun, 06 Nov 1994 08:49:60 GMT", second + 22}, {"Thu, 01 Jan 1970 00:00:01 GMT", 1},
	{"", -1}, {" ", -1}, {"0", -1}, {"-1", -1}, {"784111777", -1}, {"never", -1}, {"*", -1}, {`"a"`, -1}, {"\x00\xff", -1}, {" " + first, -1}, {first + " ", -1}, {first + ",", -1}, {first + ", " + first, -1}, {`"` + first + `"`, -1},
	{"Mon, 06 Nov 1994 08:49:37 GMT", -1}, {"Sun, 06 Nov 1994 24:00:00 GMT", -1}, {"Wed, 31 Dec 1969 23:59:59 GMT", -1}, {"Sat, 01 Jan 10000 00:00:00 GMT", -1}, {"sun, 06 nov 1994 08:49:37 gmt", -1}, {"Sun, 06 Nov 1994 08:49:37 UTC", -1},
}

func TestUnchangedByDate(t *testing.T) {
	for _, name := range trial.Letters("If-Modified-Since") {
		for _, c := range dates {
			for _, modified := range append(slices.Clone(seconds), second+22, second+23) {
				want := modified >= 0 && modified <= c.sec
				for _, tag := range []string{"", `"a"`, `W/"a"`, "a"} {
					unchanged(t, trial.Fields(name, c.text), meta(tag, modified), want)
				}
				unchanged(t, trial.Fields("Date", zero, name, c.text, "X", later), meta("", modified), want)
			}
		}
	}
	unchanged(t, trial.Fields("If-Modified-Since", first), meta("", second-1), true)
	unchanged(t, trial.Fields("If-Modified-Since", first), meta("", second), true)
	unchanged(t, trial.Fields("If-Modified-Since", first), meta("", second+1), false)
	unchanged(t, trial.Fields("If-Modified-Since", first), meta("", -1), false)
	unchanged(t, trial.Fields("If-Modified-Since", zero), meta("", 0), true)
	unchanged(t, trial.Fields("If-Modified-Since", "never"), meta("", 0), false)
}

// twice are the texts of two fields where one may be: some would be a date by the comma between them.
var twice = [][2]string{{first, first}, {first, later}, {later, first}, {first, ""}, {"", first}, {first, "never"}, {"never", first}, {"", ""}, {"Sun", "06 Nov 1994 08:49:37 GMT"}, {"Sunday", "06-Nov-94 08:49:37 GMT"}, {`"a"`, `"a"`}, {`"a"`, ""}, {"", `"a"`}, {`"a"`, first}, {`"a`, `a"`}}

func TestUnchangedByTwoDates(t *testing.T) {
	names := trial.Letters("If-Modified-Since")
	for i, name := range names {
		for _, c := range twice {
			for _, modified := range []int{-1, 0, 1, second} {
				unchanged(t, trial.Fields(name, c[0], names[len(names)-1-i], c[1]), meta(`"a"`, modified), false)
				unchanged(t, trial.Fields(name, c[0], "X", "1", name, c[1], name, c[0]), meta(`"a"`, modified), false)
			}
		}
	}
}

// TestUnchangedByEachMixture holds each short list of some fields against the plain reading.
func TestUnchangedByEachMixture(t *testing.T) {
	of := trial.Fields("If-None-Match", `"a"`, "if-none-match", `W/"b", x`, "IF-NONE-MATCH", "*", "If-None-Match", "", "If-None-Match", `"`,
		"If-Modified-Since", first, "if-modified-since", zero, "If-Modified-Since", "never", "X", `"a"`)
	metas := []api.Meta{meta(`"a"`, -1), meta(`W/"a"`, second), meta(`"b"`, 0), meta("", second), meta("", second+1), meta("*", 0), meta("a", -2)}
	trial.Lists(of, 4, func(l []api.Field) {
		for _, m := range metas {
			for _, method := range []string{"GET", "HEAD", "POST"} {
				req := api.Request{Method: method, Fields: l}
				if got, want := Unchanged(req, m), plainUnchanged(req, m); got != want {
					t.Errorf("Unchanged(%+v, %+v) is %v", req, m, got)
				}
			}
		}
	})
}

// P12.3

func TestAppliesByMethod(t *testing.T) {
	for _, l := range [][]api.Field{trial.Fields("Range", "bytes=0-1"), trial.Fields("Range", "bytes=0-1", "If-Range", `"a"`), trial.Fields("If-Range", first, "Range", "bytes=0-1")} {
		applies(t, api.Request{Method: "GET", Fields: l}, meta(`"a"`, second), true)
		applies(t, api.Request{Method: "GET", Target: "\x00", Minor: high, Fields: l}, meta(`"a"`, second), true)
		for _, method := range []string{"HEAD", "get", "Get", "gET", "POST", "PUT", "DELETE", "PURGE", "OPTIONS", "", "GET ", " GET", "GE", "GETS", "ET", "GET,GET", "*", "\x00\xff"} {
			applies(t, api.Request{Method: method, Target: "/", Minor: 1, Fields: l}, meta(`"a"`, second), false)
		}
	}
}

// Whether there is one Range is asked, not what it says.
func TestAppliesByRange(t *testing.T) {
	names := trial.Letters("Range")
	for i, name := range names {
		for _, text := range []string{"bytes=0-1", "bytes=-1", "", "*", "x", `"`, "bytes=0-1, 3-4", "\x00\xff"} {
			for _, m := range []api.Meta{meta("", -1), meta(`"a"`, second), meta("a", low)} {
				applies(t, get(name, text), m, true)
				applies(t, get("X", "1", name, text, "If-None-Match", `"b"`, "If-Modified-Since", first), m, true)
				applies(t, get(name, text, name, text), m, false)
				applies(t, get(name, text, "X", "1", names[len(names)-1-i], ""), m, false)
				applies(t, get(name, "", name, text, names[0], text), m, false)
			}
			applies(t, get(name, text, "Range", text, "If-Range", `"a"`), meta(`"a"`, second), false)
			applies(t, get(name, text, "If-Range", `"a"`), meta(`"a"`, second), true)
		}
	}
	for _, l := range [][]api.Field{nil, {}, trial.Fields("X", "bytes=0-1"), trial.Fields("If-Range", `"a"`), trial.Fields("If-Range", first)} {
		applies(t, api.Request{Method: "GET", Fields: l}, meta(`"a"`, second), false)
	}
	for _, name := range append(trial.Nearly("Range"), "Content-Range", "Accept-Ranges") {
		applies(t, get(name, "bytes=0-1"), meta(`"a"`, second), false)
		applies(t, get(name, "bytes=0-1", "range", "bytes=0-1", name, ""), meta(`"a"`, second), true)
	}
}

func TestAppliesByTag(t *testing.T) {
	for _, c := range []struct {
		text, tag string
		want      bool
	}{
		{`"a"`, `"a"`, true}, {`W/"a"`, `"a"`, false}, {`"a"`, `W/"a"`, false}, {`W/"a"`, `W/"a"`, false}, {`"b"`, `"a"`, false}, {`"A"`, `"a"`, false}, {`"ab"`, `"a"`, false},
		{`""`, `""`, true}, {`W/""`, `""`, false}, {`""`, `W/""`, false}, {`""`, "", false}, {"", "", false}, {"", `""`, false}, {`""`, `"a"`, false}, {`"a"`, "", false},
		{"a", "a", false}, {"*", "*", false}, {"*", `"a"`, false}, {`"*"`, `"*"`, true}, {`'a'`, `'a'`, false}, {"", `"a"`, false}, {`"a`, `"a`, false}, {`w/"a"`, `w/"a"`, false},
		{` "a"`, `"a"`, false}, {`"a" `, `"a"`, false}, {` "a"`, ` "a"`, false}, {`"a", "a"`, `"a"`, false}, {`"a",`, `"a"`, false}, {`"a", "b"`, `"a", "b"`, false}, {`"a b"`, `"a b"`, false}, {`"a\b"`, `"a\b"`, false},
		{`"a,b"`, `"a,b"`, true}, {`"a"`, "a", false}, {`"a"`, ` "a"`, false}, {"\"\xff\"", "\"\xff\"", true}, {"\"\xc4\"", "\"\xe4\"", false}, {`"` + first + `"`, `"` + first + `"`, false},
	} {
		for _, name := range trial.Letters("If-Range") {
			for _, modified := range []int{-1, 0, second} {
				applies(t, get(name, c.text, "Range", "bytes=0-"), meta(c.tag, modified), c.want)
				applies(t, get("ETag", c.tag, "range", "bytes=0-", name, c.text, "X", c.tag), meta(c.tag, modified), c.want)
			}
		}
	}
	for _, own := range append(slices.Clone(nones), tags...) {
		for _, other := range append(slices.Clone(nones), tags...) {
			applies(t, get("If-Range", other, "Range", ""), meta(own, second), own == other && slices.Contains(tags, own) && own[0] != 'W')
		}
	}
}

func TestAppliesByDate(t *testing.T) {
	for _, name := range trial.Letters("If-Range") {
		for _, c := range dates {
			for _, modified := range append(slices.Clone(seconds), second+22, second+23) {
				for _, tag := range []string{"", `"b"`, `W/"a"`, "a"} {
					applies(t, get("Range", "bytes=0-1", name, c.text), meta(tag, modified), c.sec >= 0 && modified == c.sec)
				}
			}
		}
	}
	applies(t, get("Range", "bytes=0-1", "If-Range", first), meta("", second-1), false)
	applies(t, get("Range", "bytes=0-1", "If-Range", first), meta("", second), true)
	applies(t, get("Range", "bytes=0-1", "If-Range", first), meta("", second+1), false)
	applies(t, get("Range", "bytes=0-1", "If-Range", first), meta("", -1), false)
	applies(t, get("Range", "bytes=0-1", "If-Range", "never"), meta("", 0), false)
	applies(t, get("Range", "bytes=0-1", "If-Range", ""), meta("", 0), false)
}

func TestAppliesByTwoConditions(t *testing.T) {
	names := trial.Letters("If-Range")
	for i, name := range names {
		for _, c := range twice {
			for _, m := range []api.Meta{meta(`"a"`, second), meta(c[0]+", "+c[1], second), meta("", 0), meta("", -1)} {
				applies(t, get(name, c[0], "Range", "bytes=0-1", names[len(names)-1-i], c[1]), m, false)
				applies(t, get("Range", "bytes=0-1", name, c[0], name, c[1], "If-Range", c[0]), m, false)
			}
		}
	}
	for _, name := range append(trial.Nearly("If-Range"), "If-Match", "If-None-Match", "Range-If") {
		applies(t, get(name, `"b"`, "Range", "bytes=0-1"), meta(`"a"`, second), true)
		applies(t, get(name, `"b"`, "Range", "bytes=0-1", "If-Range", `"a"`, name, `"b"`), meta(`"a"`, second), true)
		applies(t, get(name, `"a"`, "Range", "bytes=0-1", "If-Range", `"b"`, name, first), meta(`"a"`, second), false)
	}
}

// TestAppliesByEachMixture holds each short list of some fields against the plain reading.
func TestAppliesByEachMixture(t *testing.T) {
	of := trial.Fields("Range", "bytes=0-1", "RANGE", "", "If-Range", `"a"`, "if-range", `W/"a"`, "IF-RANGE", first, "If-Range", "", "If-Range", "Sun", "If-Range", "06 Nov 1994 08:49:37 GMT", "X", `"a"`)
	metas := []api.Meta{meta(`"a"`, -1), meta(`W/"a"`, second), meta(`""`, 0), meta("", second), meta("", second+1), meta("a", 0)}
	trial.Lists(of, 4, func(l []api.Field) {
		for _, m := range metas {
			for _, method := range []string{"GET", "HEAD"} {
				req := api.Request{Method: method, Fields: l}
				if got, want := Applies(req, m), plainApplies(req, m); got != want {
					t.Errorf("Applies(%+v, %+v) is %v", req, m, got)
				}
			}
		}
	})
}

// P12.4

func TestAsks(t *testing.T) {
	asks(t, meta("", -1))
	asks(t, meta(`"a"`, -1), "If-None-Match", `"a"`)
	asks(t, meta(`W/"a"`, -1), "If-None-Match", `W/"a"`)
	asks(t, meta("", second), "If-Modified-Since", first)
	asks(t, meta(`"a"`, second), "If-None-Match", `"a"`, "If-Modified-Since", first)
	asks(t, meta(`W/""`, 0), "If-None-Match", `W/""`, "If-Modified-Since", zero)
	asks(t, meta(`""`, last), "If-None-Match", `""`, "If-Modified-Since", end)
	asks(t, meta(`""`, last+1), "If-None-Match", `""`)
	asks(t, meta("a", 0), "If-Modified-Since", zero)
	asks(t, meta("a", last+1))
	asks(t, api.Meta{}, "If-Modified-Since", zero)
	asks(t, api.Meta{Code: 304, Control: trial.Control(), Date: second, Expires: second, Modified: -1, Age: 5, Asked: 6, Got: 7, Tag: `"x"`}, "If-None-Match", `"x"`)
	asks(t, api.Meta{Code: high, Date: low, Expires: -1, Modified: 1, Age: low, Asked: high, Got: -1, Tag: "x"}, "If-Modified-Since", "Thu, 01 Jan 1970 00:00:01 GMT")
}

// formatted are seconds with the date that tells each; the empty text: none does.
var formatted = map[int]string{
	low: "", low + 1: "", -second: "", -86400: "", -2: "", -1: "", 0: zero, 1: "Thu, 01 Jan 1970 00:00:01 GMT", 86399: "Thu, 01 Jan 1970 23:59:59 GMT", second: first, second + 1: later,
	api.MaxAge: "Tue, 19 Jan 2038 03:14:08 GMT", last - 1: "Fri, 31 Dec 9999 23:59:58 GMT", last: end, last + 1: "", last + 86400: "", api.MaxTime: "", 1 << 62: "", high - 1: "", high: "",
}

func TestAsksOfEachTagAndSecond(t *testing.T) {
	for sec, text := range formatted {
		var since []string
		if text != "" {
			since = []string{"If-Modified-Since", text}
		}
		for _, tag := range tags {
			asks(t, meta(tag, sec), append([]string{"If-None-Match", tag}, since...)...)
		}
		for _, tag := range nones {
			asks(t, meta(tag, sec), since...)
		}
	}
}

func TestAsksOfEachText(t *testing.T) {
	trial.Texts([]string{`"`, "W", "/", "W/", "w", "a", `\`, " ", "*"}, 4, func(s string) {
		for _, sec := range []int{-1, second} {
			if l, want := Asks(meta(s, sec)), plainAsks(meta(s, sec)); !slices.Equal(l, want) {
				t.Errorf("Asks of %q, %d = %q, not %q", s, sec, l, want)
			}
		}
	})
}

// P12.5

// TestUnchangedAsAsked asks for the same response with what Asks tells, and for one with another tag.
func TestUnchangedAsAsked(t *testing.T) {
	all := slices.Clone(tags)
	trial.Texts([]string{"a", ",", "W/", "*", "'", "\xff"}, 3, func(s string) { all = append(all, `"`+s+`"`, `W/"`+s+`"`) })
	for i, tag := range all {
		for _, sec := range seconds {
			m := meta(tag, sec)
			l := Asks(m)
			unchanged(t, l, m, true)
			unchanged(t, append(trial.Fields("Accept", "*"), l...), m, true)
			for _, other := range append(slices.Clone(all[max(0, i-8):min(i+8, len(all))]), "", "a", "*", tag+" ", " "+tag, tag+", "+tag) {
				own, _ := plainParse(tag)
				its, is := plainParse(other)
				unchanged(t, l, meta(other, sec), is && its.Text == own.Text) // what is weak of one text is no other tag
			}
		}
	}
}

// Where there is no tag it is asked by the second alone, and where there is none of both nothing is asked.
func TestUnchangedAsAskedWithoutTag(t *testing.T) {
	for _, tag := range nones {
		for _, sec := range seconds {
			m := meta(tag, sec)
			l := Asks(m)
			unchanged(t, l, m, sec >= 0 && sec <= last)
			if (len(l) > 0) != (sec >= 0 && sec <= last) {
				t.Errorf("Asks(%+v) = %q", m, l)
			}
			if sec >= 0 && sec <= last {
				unchanged(t, l, meta(`"b"`, sec+1), false)
			}
		}
	}
}

// Rules that hold everywhere

// shares tells whether two texts have bytes in common memory.
func shares(a, b string) bool {
	if a == "" || b == "" {
		return false
	}
	x, y := uintptr(unsafe.Pointer(unsafe.StringData(a))), uintptr(unsafe.Pointer(unsafe.StringData(b)))
	return x < y+uintptr(len(b)) && y < x+uintptr(len(a))
}

// What is told is new: lists and texts.
func TestWhatIsToldIsNew(t *testing.T) {
	for _, s := range []string{`"some tag"`, `"some-tag"`, `W/"some-tag"`, `W/"` + strings.Repeat("a", 1000) + `"`} {
		tag, _ := Parse(s)
		again, _ := Parse(s)
		if shares(tag.Text, s) || shares(tag.Text, again.Text) {
			t.Errorf("%q of %q shares its bytes", tag.Text, s)
		}
		m := meta(s, second)
		l, other := Asks(m), Asks(m)
		want := slices.Clone(other)
		for i, f := range l {
			if shares(f.Value, s) || shares(f.Value, other[i].Value) {
				t.Errorf("%q shares its bytes", f)
			}
		}
		l = l[:cap(l)]
		for i := range l {
			l[i] = api.Field{Name: "Written", Value: "over"}
		}
		if !slices.Equal(other, want) || !slices.Equal(Asks(m), want) {
			t.Errorf("%q became %q", want, other)
		}
	}
}

// TestWrong hands in names, values and tags of all bytes, any second, and lists that are long.
func TestWrong(t *testing.T) {
	every := ""
	for c := range 256 {
		every += trial.Byte(c)
		for _, text := range []string{trial.Byte(c), every, every[c:], `"` + trial.Byte(c) + `"`, `"a", ` + trial.Byte(c) + `, "b"`} {
			for _, name := range []string{"If-None-Match", "If-Modified-Since", "If-Range", "Range", text} {
				req := get(name, text, every, "1", "range", text)
				m := meta(text, seconds[c%len(seconds)])
				unchanged(t, req.Fields, m, plainUnchanged(req, m))
				applies(t, req, m, plainApplies(req, m))
				applies(t, get(name, text), m, plainApplies(get(name, text), m))
				says(t, "Unchanged", Unchanged, request(text, "If-None-Match", "*"), m, false)
				says(t, "Applies", Applies, request(text, "Range", ""), m, false)
			}
			for _, sec := range seconds {
				if l, want := Asks(meta(text, sec)), plainAsks(meta(text, sec)); !slices.Equal(l, want) {
					t.Errorf("Asks of %q, %d = %q, not %q", text, sec, l, want)
				}
			}
			asParsed(t, text)
		}
	}
	many := strings.Repeat(`"b",`, 1<<16)
	unchanged(t, trial.Fields("If-None-Match", many+`W/"a"`), meta(`"a"`, -1), true)
	unchanged(t, trial.Fields("If-None-Match", many, "If-None-Match", many), meta(`"a"`, -1), false)
	unchanged(t, trial.Fields("If-None-Match", `"a",`+many+`"`), meta(`"a"`, -1), false)
	large := `"` + strings.Repeat("a", 1<<20) + `"`
	unchanged(t, trial.Fields("If-None-Match", large), meta("W/"+large, -1), true)
	applies(t, get("If-Range", large, "Range", large), meta(large, -1), true)
	asks(t, meta(large, -1), "If-None-Match", large)
}

// What is told hangs on what is handed in alone, however many ask at one time.
func TestManyAtOneTime(t *testing.T) {
	req, m := get("If-None-Match", `"x", W/"a"`, "Range", "bytes=0-1", "If-Range", `"a"`), meta(`"a"`, second)
	want := trial.Fields("If-None-Match", `"a"`, "If-Modified-Since", first)
	var all sync.WaitGroup
	for range 8 {
		all.Go(func() {
			for range 500 {
				tag, ok := Parse(`W/"a"`)
				if !ok || tag != (Tag{Weak: true, Text: "a"}) || !Weak(tag, Tag{Text: "a"}) || Strong(tag, tag) {
					t.Errorf("%+v, %v", tag, ok)
				}
				if !Unchanged(req, m) || !Applies(req, m) || !slices.Equal(Asks(m), want) {
					t.Errorf("%+v and %+v", req, m)
				}
			}
		})
	}
	all.Wait()
}
