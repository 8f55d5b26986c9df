package field

import (
	"regexp"
	"slices"
	"strings"
	"testing"

	"gatepost/api"
	"gatepost/trial"
)

// lineForm is a field's line as the chapter tells it, in characters that are a byte each (see wide).
var lineForm = regexp.MustCompile("^([!#$%&'*+.^_`|~0-9A-Za-z-]+):[\t ]*((?:[!-~\u0080-\u00ff](?:[\t -~\u0080-\u00ff]*[!-~\u0080-\u00ff])?)?)[\t ]*$")

// seven are the names that are for one connection alone, as the chapter writes them.
var seven = []string{"Connection", "Keep-Alive", "Proxy-Connection", "TE", "Trailer", "Transfer-Encoding", "Upgrade"}

// others is the plain reading of what is left without some names.
func others(l []api.Field, names ...string) []api.Field {
	var left []api.Field
	for _, f := range l {
		if !slices.ContainsFunc(names, func(name string) bool { return trial.Small(name) == trial.Small(f.Name) }) {
			left = append(left, f)
		}
	}
	return left
}

// untouched looks whether a list that is handed to a function reads as before.
func untouched(t *testing.T, l []api.Field, do func([]api.Field) []api.Field) {
	t.Helper()
	if !trial.Untouched(l, do) {
		t.Errorf("%q, or what lies behind it, was changed, or shares its memory with what was told", l)
	}
}

func isParsed(t *testing.T, s string, want api.Field, wantE api.Errno) {
	t.Helper()
	if f, e := Parse(s); f != want || e != wantE {
		t.Errorf("Parse(%q) = %q, %d, not %q, %d", s, f, e, want, wantE)
	}
}

func isLine(t *testing.T, f api.Field, want string, wantE api.Errno) {
	t.Helper()
	if s, e := Line(f); s != want || e != wantE {
		t.Errorf("Line(%q) = %q, %d, not %q, %d", f, s, e, want, wantE)
	}
}

func isGot(t *testing.T, l []api.Field, name, want string, wantN int) {
	t.Helper()
	if s, n := Get(l, name); s != want || n != wantN {
		t.Errorf("Get(%q, %q) = %q, %d, not %q, %d", l, name, s, n, want, wantN)
	}
}

func isList(t *testing.T, what string, got, want []api.Field) {
	t.Helper()
	if !slices.Equal(got, want) {
		t.Errorf("%s tells %q, not %q", what, got, want)
	}
}

func areNames(t *testing.T, l []api.Field, name string, want []string, wantOk bool) {
	t.Helper()
	got, ok := Names(l, name)
	if !slices.Equal(got, want) || ok != wantOk {
		t.Errorf("Names(%q, %q) = %q, %v, not %q, %v", l, name, got, ok, want, wantOk)
	}
}

// P4.1

// asParsed holds Parse of any text against the pattern.
func asParsed(t *testing.T, s string) {
	t.Helper()
	m := lineForm.FindStringSubmatch(trial.Wide(s))
	if m == nil {
		isParsed(t, s, api.Field{}, api.ErrField)
		return
	}
	isParsed(t, s, api.Field{Name: trial.Narrow(m[1]), Value: trial.Narrow(m[2])}, api.OK)
}

func TestParse(t *testing.T) {
	for _, c := range []struct{ s, name, value string }{
		{"Age:\t5 ", "Age", "5"},
		{"Age:5", "Age", "5"},
		{"Age: 5", "Age", "5"},
		{"aGE:5", "aGE", "5"},
		{"AGE: X", "AGE", "X"},
		{"a:", "a", ""},
		{"a: ", "a", ""},
		{"a:\t \t", "a", ""},
		{"a: \t b \t c\t ", "a", "b \t c"},
		{"a: b:c", "a", "b:c"},
		{"a::", "a", ":"},
		{"a: : ", "a", ":"},
		{"a::b: c", "a", ":b: c"},
		{"a:\x80\xff", "a", "\x80\xff"},
		{"a: \xc2\xa0 ", "a", "\xc2\xa0"}, // no blank but 32 and 9 is taken from an end
		{"a: \x85\xa0", "a", "\x85\xa0"},
		{`a: "b, c" , d`, "a", `"b, c" , d`},
		{`a: "b`, "a", `"b`},
		{"!#$%&'*+-.^_`|~09azAZ: !~", "!#$%&'*+-.^_`|~09azAZ", "!~"},
	} {
		isParsed(t, c.s, api.Field{Name: c.name, Value: c.value}, api.OK)
	}
}

func TestParseOfNone(t *testing.T) {
	for _, s := range []string{
		"", " ", "Age", "Age 5", "Age=5", "Age;5", ":", ": 5", ":5", "::", " : 5", "\t:",
		"Age : 5", "Age\t: 5", " Age: 5", "\tAge: 5", "A ge: 5", "A,e: 5", `"Age": 5`, "Age\x00: 5", "Age\x7f: 5", "Ag\x80: 5", "\xc3\xa4: 5",
		"(a): 5", "a/b: 5", "a@b: 5", "a[b]: 5", "a{b}: 5", "a\\b: 5", "a?b: 5", "a=b: 5", "a;b: 5", "a<b>: 5",
		"Age: \x7f", "Age: \x00", "Age: 5\x00", "Age: 5\x7f6", "Age: 5\r", "Age: 5\n", "Age: 5\r\n", "Age:\r\n 5", "Age: 5\x1f", "Age: \x0b5", "Age: 5\x08", "Age:\x0c",
	} {
		isParsed(t, s, api.Field{}, api.ErrField)
	}
}

func TestParseOfChangedBytes(t *testing.T) {
	for _, s := range []string{"Age: 5", "a:", "a:b", "A-b:\t c \td\x80 ", ":", "a", "a b", "a : b", "a:b:c", "x:\xff", ""} {
		trial.Changed(s, func(s string) { asParsed(t, s) })
	}
}

func TestParseOfEveryShortLine(t *testing.T) {
	const alphabet = "aZ: \t\"\x80\x7f"
	var all func(s string, more int)
	all = func(s string, more int) {
		asParsed(t, s)
		for i := range len(alphabet) {
			if more > 0 {
				all(s+alphabet[i:i+1], more-1)
			}
		}
	}
	all("", 5)
	all("a:", 5)
}

// How long a line may be is asked by those that call: the chapter names no limit.
func TestParseAndLineOfManyBytes(t *testing.T) {
	long := strings.Repeat("aB", 2*api.MaxHead)
	isParsed(t, long+":"+long, api.Field{Name: long, Value: long}, api.OK)
	isParsed(t, "a:"+strings.Repeat(" \t", api.MaxHead), api.Field{Name: "a"}, api.OK)
	isParsed(t, long, api.Field{}, api.ErrField)
	isLine(t, api.Field{Name: long, Value: long}, long+": "+long, api.OK)
}

func TestLine(t *testing.T) {
	for _, c := range []struct{ name, value, want string }{
		{"Age", "5", "Age: 5"},
		{"aGE", "X", "aGE: X"},
		{"a", "", "a: "},
		{"a", "b \t c", "a: b \t c"},
		{"a", ":b:", "a: :b:"},
		{"a", "\x80\xff", "a: \x80\xff"},
		{"a", `"b`, `a: "b`},
		{"!#$%&'*+-.^_`|~09azAZ", "!~", "!#$%&'*+-.^_`|~09azAZ: !~"},
	} {
		isLine(t, api.Field{Name: c.name, Value: c.value}, c.want, api.OK)
	}
}

func TestLineOfNone(t *testing.T) {
	for _, f := range trial.Fields(
		"", "", "", "5", " ", "5", "Age ", "5", " Age", "5", "A ge", "5", "Age:", "5", "Age\t", "5", "Ag\x80", "5", "Age\x7f", "5", "Age\x00", "5", "Age\n", "5",
		"Age", " ", "Age", "\t", "Age", " 5", "Age", "5 ", "Age", "\t5", "Age", "5\t", "Age", "5\x00", "Age", "5\x7f", "Age", "\x7f", "Age", "5\r", "Age", "5\r\nX: 6", "Age", "5\x1f6",
		"A ge", " 5",
	) {
		isLine(t, f, "", api.ErrField)
	}
}

// asLine holds Line of any field against the pattern: blanks that Parse would take away may not be at a value's ends.
func asLine(t *testing.T, f api.Field) {
	t.Helper()
	s := f.Name + ": " + f.Value
	m := lineForm.FindStringSubmatch(trial.Wide(s))
	if m == nil || trial.Narrow(m[1]) != f.Name || trial.Narrow(m[2]) != f.Value {
		isLine(t, f, "", api.ErrField)
		return
	}
	isLine(t, f, s, api.OK)
}

func TestLineOfChangedBytes(t *testing.T) {
	for _, s := range []string{"", "a", "Ab-", "5", "b c", "b\t\xff"} {
		trial.Changed(s, func(s string) {
			asLine(t, api.Field{Name: s, Value: "v"})
			asLine(t, api.Field{Name: "n", Value: s})
		})
	}
}

// P4.2

func TestGet(t *testing.T) {
	l := trial.Fields("A", "1", "b", "x", "a", "2", "C", "", "B", "y z", "A", "", "a", "3", "c", "", "A-b", "4")
	for _, c := range []struct {
		name, want string
		n          int
	}{
		{"A", "1, 2, , 3", 4},
		{"a", "1, 2, , 3", 4},
		{"B", "x, y z", 2},
		{"c", ", ", 2},
		{"a-B", "4", 1},
		{"d", "", 0},
		{"", "", 0},
		{"A ", "", 0},
		{"ab", "", 0},
	} {
		isGot(t, l, c.name, c.want, c.n)
	}
	isGot(t, l[3:4], "C", "", 1) // empty, and yet there
	isGot(t, nil, "a", "", 0)
	isGot(t, []api.Field{}, "a", "", 0)
}

// Fields and names that no line could tell are compared and handed on as they are.
func TestGetDelSetAskNothingOfBytes(t *testing.T) {
	l := trial.Fields("", "1", " ", "2", "\xc4", "3", "\xe4", "4", "\u212a", "5", "k", "6", "[", "7", "{", "8", "@", "9", "`", "10", "a\x00", " \n ")
	for name, want := range map[string]string{
		"": "1", " ": "2", "\xc4": "3", "\xe4": "4", "\u212a": "5", "K": "6", "[": "7", "{": "8", "@": "9", "`": "10", "A\x00": " \n ",
	} {
		isGot(t, l, name, want, 1)
		isList(t, "Del", Del(l, name), others(l, name))
		isList(t, "Set", Set(l, name, "\r\n "), append(others(l, name), api.Field{Name: name, Value: "\r\n "}))
		if n := len(Del(l, name)); n != len(l)-1 {
			t.Errorf("Del(%q) leaves %d fields", name, n)
		}
	}
}

func TestDel(t *testing.T) {
	l := trial.Fields("A", "1", "b", "x", "a", "2", "C", "", "B", "y")
	isList(t, "Del a", Del(l, "a"), trial.Fields("b", "x", "C", "", "B", "y"))
	isList(t, "Del A", Del(l, "A"), trial.Fields("b", "x", "C", "", "B", "y"))
	isList(t, "Del B", Del(l, "B"), trial.Fields("A", "1", "a", "2", "C", ""))
	isList(t, "Del c", Del(l, "c"), trial.Fields("A", "1", "b", "x", "a", "2", "B", "y"))
	isList(t, "Del d", Del(l, "d"), l)
	isList(t, "Del of no name", Del(l, ""), l)
	isList(t, "Del of none", Del(nil, "a"), nil)
	isList(t, "Del of an empty list", Del([]api.Field{}, "a"), nil)
	isList(t, "Del of all", Del(trial.Fields("a", "1", "A", "2"), "a"), nil)
	isList(t, "Del of what Connection is to Strip", Del(trial.Fields("Connection", "b", "b", "1", "TE", "2"), "connection"), trial.Fields("b", "1", "TE", "2"))
}

func TestSet(t *testing.T) {
	l := trial.Fields("A", "1", "b", "x", "a", "2")
	isList(t, "Set a", Set(l, "a", "3"), trial.Fields("b", "x", "a", "3"))
	isList(t, "Set A", Set(l, "A", "3"), trial.Fields("b", "x", "A", "3"))
	isList(t, "Set B", Set(l, "B", ""), trial.Fields("A", "1", "a", "2", "B", ""))
	isList(t, "Set c", Set(l, "c", "3"), trial.Fields("A", "1", "b", "x", "a", "2", "c", "3"))
	isList(t, "Set of none", Set(nil, "a", "1"), trial.Fields("a", "1"))
	isList(t, "Set of an empty list", Set([]api.Field{}, "a", "1"), trial.Fields("a", "1"))
	isList(t, "Set of all", Set(trial.Fields("a", "1", "A", "2"), "a", ""), trial.Fields("a", ""))
}

func TestGetDelSetOfEveryShortList(t *testing.T) {
	trial.Lists(trial.Fields("a", "1", "A", "", "b", "2, 3", "B", "4", "ab", "5"), 4, func(l []api.Field) {
		for _, name := range []string{"a", "A", "b", "Ab", "c"} {
			found := trial.Values(l, name)
			isGot(t, l, name, strings.Join(found, ", "), len(found))
			isList(t, "Del", Del(l, name), others(l, name))
			isList(t, "Set", Set(l, name, "new"), append(others(l, name), api.Field{Name: name, Value: "new"}))
		}
	})
}

// P4.3

func TestNames(t *testing.T) {
	for _, c := range []struct {
		l    []api.Field
		want []string
	}{
		{trial.Fields("N", "close, X"), []string{"close", "x"}},
		{trial.Fields("n", "Close"), []string{"close"}},
		{trial.Fields("N", "a", "M", "m", "n", "B", "N", "c,D"), []string{"a", "b", "c", "d"}},
		{trial.Fields("N", " a\t,\tB ,c"), []string{"a", "b", "c"}},
		{trial.Fields("N", ",, a ,\t, b,"), []string{"a", "b"}},
		{trial.Fields("N", "", "N", "a", "N", ""), []string{"a"}},
		{trial.Fields("N", "a, A, a"), []string{"a", "a", "a"}},
		{trial.Fields("N", "!#$%&'*+-.^_`|~09AZ"), []string{"!#$%&'*+-.^_`|~09az"}},
		{trial.Fields("N", ""), nil},
		{trial.Fields("N", " \t"), nil},
		{trial.Fields("N", ",, ,"), nil},
		{trial.Fields("M", "a b"), nil},
		{nil, nil},
		{[]api.Field{}, nil},
	} {
		areNames(t, c.l, "n", c.want, true)
		areNames(t, c.l, "N", c.want, true)
	}
}

func TestNamesOfNone(t *testing.T) {
	for _, l := range [][]api.Field{
		trial.Fields("N", `"a`), trial.Fields("N", `a, "b`), trial.Fields("N", `"a\"`), trial.Fields("N", "a", "N", `b, "`),
		trial.Fields("N", `"a"`), trial.Fields("N", `a, "b", c`), trial.Fields("N", `"a`, "n", `b"`), trial.Fields("N", `a"b"`),
		trial.Fields("N", "a b"), trial.Fields("N", "a, b c"), trial.Fields("N", "a\tb, c"), trial.Fields("N", "a=b"), trial.Fields("N", "a;b"), trial.Fields("N", "a, b/c"),
		trial.Fields("N", "\x80"), trial.Fields("N", "a\x00"), trial.Fields("N", "a, \x7f"), trial.Fields("N", "a\n"), trial.Fields("N", "a", "N", "b, ä"),
		trial.Fields("N", "(", "N", "a"), trial.Fields("N", "a, b, c, d, e=f"),
	} {
		areNames(t, l, "n", nil, false)
		areNames(t, append(trial.Fields("M", "m"), l...), "N", nil, false)
		areNames(t, l, "M", nil, true) // a field of that name alone counts
	}
}

func TestNamesOfEveryByte(t *testing.T) {
	for c := range 256 {
		s := trial.Byte(c)
		switch {
		case strings.Contains("!#$%&'*+-.^_`|~0123456789ABCDEFGHIJKLMNOPQRSTUVWXYZabcdefghijklmnopqrstuvwxyz", s):
			areNames(t, trial.Fields("N", "a"+s+"Z"), "n", []string{"a" + trial.Small(s) + "z"}, true)
		case s == ",":
			areNames(t, trial.Fields("N", "a"+s+"Z"), "n", []string{"a", "z"}, true)
		default:
			areNames(t, trial.Fields("N", "a"+s+"Z"), "n", nil, false)
		}
	}
}

// What is told is the caller's own: written over, its spare room too, it changes no later answer.
func TestNamesAreNew(t *testing.T) {
	l := trial.Fields("N", "a, b, c")
	got, _ := Names(l, "N")
	got = got[:cap(got)]
	for i := range got {
		got[i] = "written"
	}
	areNames(t, l, "N", []string{"a", "b", "c"}, true)
	isList(t, "the list", l, trial.Fields("N", "a, b, c"))
}

// P4.4

func TestStrip(t *testing.T) {
	for _, c := range []struct{ l, want []api.Field }{
		{trial.Fields("Connection", "close, X", "X", "1", "Y", "2"), trial.Fields("Y", "2")},
		{trial.Fields("Y", "2", "x", "1", "CONNECTION", "X", "X", "3"), trial.Fields("Y", "2")},
		{trial.Fields("A", "1", "Connection", "b-C", "B-c", "2", "D", "3", "b-c", "4", "b", "5"), trial.Fields("A", "1", "D", "3", "b", "5")},
		{trial.Fields("Connection", "a", "A", "1", "B", "2", "C", "3", "connection", " , C,,b "), nil},
		{trial.Fields("Connection", "", "A", "1"), trial.Fields("A", "1")},
		{trial.Fields("Connection", "Content-Length, Host", "Host", "h", "content-length", "1", "A", "2"), trial.Fields("A", "2")},
		{trial.Fields("A", "1", "B", "", "a", "2"), trial.Fields("A", "1", "B", "", "a", "2")},
		{trial.Fields("Close", "1", "Connections", "2", "Keep", "3", "Alive", "4", "T", "5", "TEE", "6", "Trailers", "7", "Transfer", "8", "Encoding", "9", "", "10"),
			trial.Fields("Close", "1", "Connections", "2", "Keep", "3", "Alive", "4", "T", "5", "TEE", "6", "Trailers", "7", "Transfer", "8", "Encoding", "9", "", "10")},
		{trial.Fields("Keep-Alive", "A", "TE", "A", "Trailer", "A", "Upgrade", "A", "Proxy-Connection", "A", "A", "1"), trial.Fields("A", "1")},
		{nil, nil},
		{[]api.Field{}, nil},
	} {
		isList(t, "Strip", Strip(c.l), c.want)
	}
}

func TestStripOfEachOfTheSeven(t *testing.T) {
	for _, name := range seven {
		for _, as := range []string{name, strings.ToLower(name), strings.ToUpper(name), strings.ToLower(name[:1]) + strings.ToUpper(name[1:])} {
			isList(t, "Strip of "+as, Strip(trial.Fields("A", "1", as, "b", "C", "2", as, "", "c", "3")), trial.Fields("A", "1", "C", "2", "c", "3"))
			isList(t, "Strip of "+as+" alone", Strip(trial.Fields(as, "b")), nil)
			isList(t, "Strip of "+as+" and a Connection", Strip(trial.Fields("Connection", "A", as, "b", "C", "2", "a", "3")), trial.Fields("C", "2"))
			isList(t, "Strip of "+as+"x", Strip(trial.Fields(as+"x", "1", "x"+as, "2")), trial.Fields(as+"x", "1", "x"+as, "2"))
		}
	}
}

// Where Connection's names are none the seven go all the same, and nothing else does.
func TestStripWhereConnectionNamesNone(t *testing.T) {
	for _, bad := range []string{`"a`, `A, "b"`, "A, b c", "A, b=c", "A;", "A, \x80", "A, (", `"A"`} {
		for _, conn := range [][]api.Field{
			trial.Fields("Connection", bad),
			trial.Fields("Connection", bad, "connection", "A"),
			trial.Fields("CONNECTION", "A", "Connection", bad),
		} {
			l := append(conn, trial.Fields("A", "1", "b", "2")...)
			for _, name := range seven {
				l = append(l, trial.Fields(name, "3", strings.ToLower(name), "4")...)
			}
			// A, that a good element beside the wrong one names, stays too.
			isList(t, "Strip of "+bad, Strip(append(l, trial.Fields("a", "5")...)), trial.Fields("A", "1", "b", "2", "a", "5"))
		}
	}
}

func TestStripOfEveryShortList(t *testing.T) {
	of := trial.Fields("Connection", "A, c", "connection", "B", "Connection", "a b", "Te", "a", "a", "1", "B", "2", "C", "3", "d", "Connection")
	trial.Lists(of, 4, func(l []api.Field) {
		named := slices.Clone(seven)
		if text := trial.Values(l, "Connection"); !slices.Contains(text, "a b") {
			for _, one := range text {
				named = append(named, strings.Split(one, ", ")...)
			}
		}
		isList(t, "Strip", Strip(l), others(l, named...))
	})
}

// P4.5

func TestLineIsParsedToItsField(t *testing.T) {
	told := 0
	for _, s := range []string{"", "a", "Ab-", "5", "b c", "b\t\xff", ":", " "} {
		trial.Changed(s, func(s string) {
			for _, f := range trial.Fields(s, "v", s, "", "N", s, "n", "x: "+s, "", s) {
				line, e := Line(f)
				if e != api.OK {
					isLine(t, f, "", api.ErrField)
					continue
				}
				told++
				isParsed(t, line, f, api.OK)
			}
		})
	}
	if told == 0 {
		t.Error("no line was told")
	}
}

// What was parsed is told as a line that is parsed to the same.
func TestFieldIsToldAnew(t *testing.T) {
	for _, s := range []string{"Age:\t5 ", "a:", "a:b:c", "a:\x80 \tb"} {
		trial.Changed(s, func(s string) {
			f, e := Parse(s)
			if e != api.OK {
				return
			}
			line, e := Line(f)
			if e != api.OK {
				t.Errorf("%q is parsed to %q, and that is told as %d", s, f, e)
			}
			isParsed(t, line, f, api.OK)
		})
	}
}

func TestGetBehindSet(t *testing.T) {
	trial.Lists(trial.Fields("a", "1", "A", "", "b", "2", "B", "3", "c", "4"), 4, func(l []api.Field) {
		for _, name := range []string{"a", "A", "b", "C", "d"} {
			for _, value := range []string{"", "new", "1, 2"} {
				set := Set(l, name, value)
				isGot(t, set, name, value, 1)
				isList(t, "Del behind Set", Del(set, name), others(l, name))
				for _, other := range []string{"a", "b", "c", "d"} {
					if other != trial.Small(name) {
						found := trial.Values(l, other)
						isGot(t, set, other, strings.Join(found, ", "), len(found))
					}
				}
			}
		}
	})
}

// What is handed in reads as before.
func TestListsAreNotTouched(t *testing.T) {
	of := trial.Fields("Connection", "X", "X", "1", "a", "2", "A", "3", "TE", "b")
	trial.Lists(of, 4, func(l []api.Field) {
		for _, name := range []string{"a", "X", "d"} {
			untouched(t, l, func(l []api.Field) []api.Field { Get(l, name); return nil })
			untouched(t, l, func(l []api.Field) []api.Field { Names(l, name); return nil })
			untouched(t, l, func(l []api.Field) []api.Field { return Del(l, name) })
			untouched(t, l, func(l []api.Field) []api.Field { return Set(l, name, "new") })
		}
		untouched(t, l, Strip)
	})
}

// A list that was told goes its own way: what is put behind it is not seen in another one's.
func TestListsAreTheirOwn(t *testing.T) {
	l := trial.Fields("a", "1", "b", "2", "c", "3", "d", "4")
	for _, tell := range []func() []api.Field{
		func() []api.Field { return Del(l, "b") },
		func() []api.Field { return Set(l, "b", "5") },
		func() []api.Field { return Strip(l) },
	} {
		first, second := tell(), tell()
		want := slices.Clone(second)
		for i := range first {
			first[i].Value = "written"
		}
		_ = append(first, api.Field{Name: "x", Value: "y"})
		isList(t, "the second", second, want)
		isList(t, "a third", tell(), want)
	}
}
