package vary

import (
	"fmt"
	"slices"
	"sort"
	"strconv"
	"strings"
	"sync"
	"testing"
	"unsafe"

	"gatepost/api"
	"gatepost/token"
	"gatepost/trial"
)

// vary are the field's name in letters of any size.
var vary = []string{"Vary", "vary", "VARY", "vARY", "VaRy"}

// nearly are names that Vary is not.
var nearly = []string{"", "V", "Var", "ary", "Varys", "Vary ", " Vary", "Vary\x00", "X-Vary", "V\xe1ry", "Vary:", "*"}

// had is the plain reading of what there is of a name: no text, or one.
func had(l []api.Field, name string) (text []string) {
	for _, f := range l {
		if trial.Small(f.Name) != trial.Small(name) {
			continue
		}
		if text == nil {
			text = []string{f.Value}
		} else {
			text[0] += ", " + f.Value
		}
	}
	return text
}

// plainNames is a plain reading of P11.1.
func plainNames(l []api.Field) ([]string, bool) {
	list, ok := token.Split(strings.Join(had(l, "vary"), ""))
	if !ok {
		return nil, false
	}
	var names []string
	for _, e := range list {
		if e == "*" || !token.Is(e) {
			return nil, false
		}
		names = append(names, trial.Small(e))
	}
	sort.Strings(names)
	return slices.Compact(names), true
}

// plainKey is a plain reading of P11.2.
func plainKey(names []string, l []api.Field) string {
	key := ""
	for _, name := range names {
		if text := had(l, name); text == nil {
			key += name + ":-,"
		} else {
			key += fmt.Sprintf("%s:%d:%s,", name, len(text[0]), text[0])
		}
	}
	return key
}

// plainSame is a plain reading of P11.4, which holds of all names, as those of both Keys are the same.
func plainSame(names []string, a, b []api.Field) bool {
	return !slices.ContainsFunc(names, func(name string) bool { return !slices.Equal(had(a, name), had(b, name)) })
}

// untouched hands a list of fields with spare room to a function, and looks whether both read as before.
func untouched(t *testing.T, l []api.Field, see func(l []api.Field)) {
	t.Helper()
	as := func(l []api.Field) []api.Field { see(l); return nil }
	if !trial.Untouched(l, as) {
		t.Errorf("%q, or what lies behind it, was changed", l)
	}
}

// kept hands names with others behind them to a function, and looks whether all read as before.
func kept(t *testing.T, names []string, see func(names []string)) {
	t.Helper()
	room := append(append(make([]string, 0, len(names)+3), names...), "Spare", "a", "")
	before := slices.Clone(room)
	see(room[:len(names)])
	if !slices.Equal(room, before) {
		t.Errorf("%q became %q", before, room)
	}
}

func areNames(t *testing.T, l []api.Field, want []string, wantOk bool) {
	t.Helper()
	untouched(t, l, func(l []api.Field) {
		t.Helper()
		if names, ok := Names(l); ok != wantOk || !slices.Equal(names, want) {
			t.Errorf("Names(%q) = %q, %v, not %q, %v", l, names, ok, want, wantOk)
		}
	})
}

func isKey(t *testing.T, names []string, l []api.Field, want string) {
	t.Helper()
	kept(t, names, func(names []string) {
		t.Helper()
		untouched(t, l, func(l []api.Field) {
			t.Helper()
			if key := Key(names, l); key != want {
				t.Errorf("Key(%q, %q) = %q, not %q", names, l, key, want)
			}
		})
	})
}

// isSame asks of two lists, both ways, and of their Keys.
func isSame(t *testing.T, names []string, a, b []api.Field, want bool) {
	t.Helper()
	kept(t, names, func(names []string) {
		t.Helper()
		untouched(t, a, func(a []api.Field) {
			t.Helper()
			untouched(t, b, func(b []api.Field) {
				t.Helper()
				if Same(names, a, b) != want || Same(names, b, a) != want || (Key(names, a) == Key(names, b)) != want {
					t.Errorf("Same(%q, %q, %q) is not %v, or their Keys do not say so: %q, %q", names, a, b, want, Key(names, a), Key(names, b))
				}
				if !Same(names, a, a) || !Same(names, b, slices.Clone(b)) {
					t.Errorf("%q or %q is not the same as itself in %q", a, b, names)
				}
			})
		})
	})
}

// P11.1

// texts are Vary's, each as the texts of the fields that make it, with the names that they tell.
var texts = []struct{ fields, want []string }{
	{nil, nil},
	{[]string{""}, nil},
	{[]string{" "}, nil},
	{[]string{","}, nil},
	{[]string{" ,\t, ,,\t"}, nil},
	{[]string{"", ""}, nil},
	{[]string{",", " ", "\t,"}, nil},
	{[]string{"a"}, []string{"a"}},
	{[]string{"Accept-Encoding"}, []string{"accept-encoding"}},
	{[]string{" \ta\t "}, []string{"a"}},
	{[]string{",,a, ,"}, []string{"a"}},
	{[]string{"a, b"}, []string{"a", "b"}},
	{[]string{"a,b\t,\tc"}, []string{"a", "b", "c"}},
	{[]string{"b, a"}, []string{"a", "b"}},
	{[]string{"d,c,b,a"}, []string{"a", "b", "c", "d"}},
	{[]string{"c, A, d, B"}, []string{"a", "b", "c", "d"}},
	{[]string{"a, a"}, []string{"a"}},
	{[]string{"a, A"}, []string{"a"}},
	{[]string{"A, a"}, []string{"a"}},
	{[]string{"b, a, B, b, A"}, []string{"a", "b"}},
	{[]string{"User-Agent, USER-AGENT, user-agent, Accept"}, []string{"accept", "user-agent"}},
	{[]string{"ab, a, abc"}, []string{"a", "ab", "abc"}},
	{[]string{"Accept-Language, Accept, Accept-"}, []string{"accept", "accept-", "accept-language"}},
	{[]string{"a", "b"}, []string{"a", "b"}},
	{[]string{"b", "a"}, []string{"a", "b"}},
	{[]string{"b, c", "a, B", "", "C"}, []string{"a", "b", "c"}},
	{[]string{"a", "a", "A"}, []string{"a"}},
	{[]string{"Vary, vary"}, []string{"vary"}},
	{[]string{"a10, a9, a1, a"}, []string{"a", "a1", "a10", "a9"}},
	{[]string{"**"}, []string{"**"}},
	{[]string{"a*, *a, *-*, a"}, []string{"*-*", "*a", "a", "a*"}},
	{[]string{"'a', `a`"}, []string{"'a'", "`a`"}},
	{[]string{"a_, B, _, ^, `, 0"}, []string{"0", "^", "_", "`", "a_", "b"}}, // of great letters B would be ahead of ^
	{[]string{"~,z,|,a,`,_,^,9,0,.,-,+,**,',&,%,$,#,!"}, []string{"!", "#", "$", "%", "&", "'", "**", "+", "-", ".", "0", "9", "^", "_", "`", "a", "z", "|", "~"}},
}

// anything are Vary's that name no names, each as the texts of the fields that make it.
var anything = [][]string{
	{"*"}, {" *\t"}, {",*,"}, {"*, a"}, {"a, *"}, {"a, *, b"}, {"*, *"}, {"**, *"}, {"b, a, *, a"}, {"z, *, a"},
	{"a", "*"}, {"*", "a"}, {"a", "b", "*"}, {"", "*"}, {"*", ""}, {"a, b", "c, *"}, {"*", "*"},
	{"a b"}, {"a\tb"}, {"c, a b"}, {"a b, c"}, {"* *"}, {"* a"}, {"a *"}, {"c", "a b"},
	{"a;b"}, {"a/b"}, {"a=b"}, {"a:b"}, {"(a)"}, {"a@"}, {"[a]"}, {"{a}"}, {"<a>"}, {"a?"}, {"a\\"}, {"a, b/"}, {"/, b"}, {"*/*"},
	{"a\x00"}, {"\x7f"}, {"a\r"}, {"a\n"}, {"\x0b"}, {"a, \xe4"}, {"\xc3\xa4"}, {"\xff, a"}, {"\xa0"},
	{`"a"`}, {`""`}, {`a, "b"`}, {`"a", b`}, {`a"b"`}, {`"a"b`}, {`"a, b"`}, {`"`}, {`a, "`}, {`"a`}, {`a, "b, c`}, {`a, "b\"`}, {`"\`}, {`a"`},
	{`"*"`}, {`"*`}, {`"a, *"`}, {`"a, *", b`}, {`a, "*, b"`}, {`"\*"`},
	{`"`, `"`}, {`"a`, `b"`}, {`a, "`, `*"`}, {"a", `"`}, {`"`, "a"}, {`a`, `"b"`},
}

// varied makes fields of texts of Vary, in letters of any size, among others.
func varied(texts []string, shift int) []api.Field {
	l := trial.Fields("Accept", "*", "Connection", "close, Vary")
	for i, text := range texts {
		l = append(l, api.Field{Name: vary[(i+shift)%len(vary)], Value: text}, api.Field{Name: nearly[(i+shift)%len(nearly)], Value: "*"})
	}
	return l
}

func TestNames(t *testing.T) {
	areNames(t, nil, nil, true)
	areNames(t, []api.Field{}, nil, true)
	for _, c := range texts {
		for shift := range len(vary) * len(nearly) {
			areNames(t, varied(c.fields, shift), c.want, true)
		}
	}
}

func TestNamesOfAnything(t *testing.T) {
	for _, fields := range anything {
		for shift := range len(vary) {
			areNames(t, varied(fields, shift), nil, false)
		}
	}
}

// Fields of other names say nothing, whatever they hold.
func TestNamesOfOtherFields(t *testing.T) {
	for _, name := range append(nearly, "Accept", "Cache-Control", "a") {
		for _, value := range []string{"", "b", "*", "a b", `"`} {
			areNames(t, trial.Fields(name, value), nil, true)
			areNames(t, trial.Fields(name, value, "Vary", "a", name, value), []string{"a"}, true)
			areNames(t, trial.Fields(name, value, "Vary", "*"), nil, false)
		}
	}
}

// TestNamesOfEachByte puts each byte into names, at each place.
func TestNamesOfEachByte(t *testing.T) {
	for _, s := range []string{"", "a", "b,A", "*", `"a"`, "Ab, ac"} {
		trial.Changed(s, func(s string) {
			l := trial.Fields("Vary", s)
			want, ok := plainNames(l)
			areNames(t, l, want, ok)
		})
	}
}

// TestNamesOfEachText holds every short text of some parts against the plain reading.
func TestNamesOfEachText(t *testing.T) {
	trial.Texts([]string{"a", "B", "b", "*", ",", " ", `"`, `\`, "/"}, 5, func(s string) {
		l := trial.Fields("vary", s)
		want, wantOk := plainNames(l)
		if names, ok := Names(l); ok != wantOk || !slices.Equal(names, want) {
			t.Errorf("Names(%q) = %q, %v, not %q, %v", l, names, ok, want, wantOk)
		}
	})
}

// TestNamesOfEachMixture holds every short list of some fields against the plain reading.
func TestNamesOfEachMixture(t *testing.T) {
	of := trial.Fields("Vary", "c, a", "vary", "B", "VARY", "A,b", "Vary", "", "vary", "*", "VARY", `"`, "Vary", "a b", "Var", "*", "X", "d")
	trial.Lists(of, 4, func(l []api.Field) {
		want, ok := plainNames(l)
		areNames(t, l, want, ok)
	})
}

// P11.2

func TestKey(t *testing.T) {
	l := trial.Fields("A", "1", "B", "x y", "a", "2", "E", "", "M", "-", "c:d", "3", "c,d", "4", "", "5", "L", "a:1:x,b:-,", "\xe4", "6", "Tab\t", "7", "a ", "8", "d", "", "D", "")
	for _, c := range []struct {
		names []string
		want  string
	}{
		{nil, ""}, {[]string{}, ""},
		{[]string{"a"}, "a:4:1, 2,"}, {[]string{"A"}, "A:4:1, 2,"},
		{[]string{"b"}, "b:3:x y,"}, {[]string{"B"}, "B:3:x y,"},
		{[]string{"a", "b"}, "a:4:1, 2,b:3:x y,"}, {[]string{"b", "a"}, "b:3:x y,a:4:1, 2,"},
		{[]string{"a", "a"}, "a:4:1, 2,a:4:1, 2,"}, {[]string{"a", "A", "a"}, "a:4:1, 2,A:4:1, 2,a:4:1, 2,"},
		{[]string{"b", "z", "b"}, "b:3:x y,z:-,b:3:x y,"},
		{[]string{"z"}, "z:-,"}, {[]string{"Z", "z"}, "Z:-,z:-,"}, {[]string{"*"}, "*:-,"}, {[]string{"-"}, "-:-,"}, {[]string{"1"}, "1:-,"},
		{[]string{"e"}, "e:0:,"}, {[]string{"e", "z", "m"}, "e:0:,z:-,m:1:-,"}, {[]string{"d"}, "d:2:, ,"},
		{[]string{""}, ":1:5,"}, {[]string{"", ""}, ":1:5,:1:5,"}, {[]string{"", "z", ""}, ":1:5,z:-,:1:5,"},
		{[]string{"c:d"}, "c:d:1:3,"}, {[]string{"C:D", "c,d"}, "C:D:1:3,c,d:1:4,"}, {[]string{"c:", ",d", ":", ","}, "c::-,,d:-,::-,,:-,"}, {[]string{"c", "d"}, "c:-,d:2:, ,"},
		{[]string{"L"}, "L:10:a:1:x,b:-,,"}, {[]string{"l", "b"}, "l:10:a:1:x,b:-,,b:3:x y,"},
		{[]string{"\xe4"}, "\xe4:1:6,"}, {[]string{"\xc4"}, "\xc4:-,"}, {[]string{"TAB\t"}, "TAB\t:1:7,"}, {[]string{"tab"}, "tab:-,"}, {[]string{"a ", " a"}, "a :1:8, a:-,"},
		{[]string{"a,b", "a:1"}, "a,b:-,a:1:-,"}, {[]string{"ab", "aa"}, "ab:-,aa:-,"},
	} {
		isKey(t, c.names, l, c.want)
	}
}

func TestKeyOfNoFields(t *testing.T) {
	for _, l := range [][]api.Field{nil, {}, trial.Fields("X", "1"), trial.Fields("a:", "1", "ab", "2", " a", "3")} {
		isKey(t, nil, l, "")
		isKey(t, []string{}, l, "")
		isKey(t, []string{"a"}, l, "a:-,")
		isKey(t, []string{"a", "A", "b"}, l, "a:-,A:-,b:-,")
		isKey(t, []string{""}, l, ":-,")
	}
	isKey(t, []string{""}, trial.Fields("", ""), ":0:,")
}

func TestKeyOfTexts(t *testing.T) {
	for _, text := range []string{"", "-", ":", ",", "1", "0", ":-,", "1:x,", "a:1:x,", ",a:-", "0:,a:0:", "12", "a, b", `"`, "\x00", "\xff\x80", "\u00e4", " \t"} {
		n := strconv.Itoa(len(text))
		isKey(t, []string{"a"}, trial.Fields("A", text), "a:"+n+":"+text+",")
		isKey(t, []string{"b", "a", "c"}, trial.Fields("A", text), "b:-,a:"+n+":"+text+",c:-,")
		isKey(t, []string{"a"}, trial.Fields("x", "1", "a", text, "y", "2", "A", text), "a:"+strconv.Itoa(2*len(text)+2)+":"+text+", "+text+",")
		isKey(t, []string{text}, trial.Fields("A", text), text+":-,")
		isKey(t, []string{text}, trial.Fields(text, "b"), text+":1:b,")
	}
}

func TestKeyOfLengths(t *testing.T) {
	for n, digits := range map[int]string{0: "0", 1: "1", 8: "8", 9: "9", 10: "10", 11: "11", 98: "98", 99: "99", 100: "100", 101: "101", 999: "999", 1000: "1000", 65536: "65536", 1048577: "1048577"} {
		text := strings.Repeat("7", n)
		isKey(t, []string{"a", "b"}, trial.Fields("b", "", "A", text), "a:"+digits+":"+text+",b:0:,")
		isKey(t, []string{text + "a", "b"}, trial.Fields(text+"A", "1"), text+"a:1:1,b:-,")
	}
	isKey(t, []string{"a"}, trial.Fields("a", "1234", "a", "567"), "a:9:1234, 567,") // with what stands between
	isKey(t, []string{"a"}, trial.Fields("a", "1234", "a", "5678"), "a:10:1234, 5678,")
	isKey(t, []string{"a"}, trial.Fields("a", "", "a", "", "a", "", "a", "", "a", "", "a", ""), "a:10:, , , , , ,")
}

// few are what short lists of fields are made of.
var few = trial.Fields("a", "1", "A", "2", "B", "", "b", "-", "", "1:x,", "a:b", "3", "X", "4")

// TestKeyOfEachMixture holds each short list of names with each short list of fields against the plain reading.
func TestKeyOfEachMixture(t *testing.T) {
	trial.Lists([]string{"a", "A", "b", "", "a:b", "z"}, 3, func(names []string) {
		trial.Lists(few, 3, func(l []api.Field) {
			if key, want := Key(names, l), plainKey(names, l); key != want {
				t.Errorf("Key(%q, %q) = %q, not %q", names, l, key, want)
			}
		})
	})
}

// P11.3

func TestSame(t *testing.T) {
	l := trial.Fields("A", "1", "B", "2", "C", "3")
	for _, c := range []struct {
		names []string
		a, b  []api.Field
		want  bool
	}{
		{[]string{"a", "b"}, l, l, true},
		{[]string{"a", "b"}, l, slices.Clone(l), true},
		{nil, l, nil, true},
		{[]string{}, l, trial.Fields("A", "4"), true},
		{nil, nil, []api.Field{}, true},
		{[]string{"a"}, nil, []api.Field{}, true},
		{[]string{"a", "b", "c"}, nil, nil, true},
		{[]string{"z"}, l, nil, true},
		{[]string{"a"}, l, nil, false},
		{[]string{"a", "b", "c"}, l, trial.Fields("A", "1", "B", "2", "C", "4"), false},
		{[]string{"a", "b", "c"}, l, trial.Fields("A", "4", "B", "2", "C", "3"), false},
		{[]string{"a", "b", "c"}, l, trial.Fields("A", "1", "B", "4", "C", "3"), false},
		{[]string{"a", "b"}, l, trial.Fields("A", "1", "B", "2", "C", "4"), true},
		{[]string{"b", "c"}, l, trial.Fields("A", "4", "B", "2", "C", "3"), true},
		{[]string{"a", "a"}, l, trial.Fields("A", "4", "B", "2", "C", "3"), false},
		{[]string{"a", "b"}, l, trial.Fields("A", "1", "B", "2"), true},
		{[]string{"a", "b"}, l, trial.Fields("X", "5", "A", "1", "Y", "6", "B", "2"), true},
		{[]string{"a", "b", "c"}, l, trial.Fields("C", "3", "B", "2", "A", "1"), true},
		{[]string{"a", "b"}, l, trial.Fields("B", "1", "A", "2"), false},
		{[]string{"a"}, trial.Fields("A", "1", "A", "2"), trial.Fields("A", "2", "A", "1"), false},
		{[]string{"a"}, trial.Fields("A", "1", "A", "2"), trial.Fields("A", "1", "A", "2"), true},
		{[]string{"a"}, trial.Fields("A", "1", "B", "3", "A", "2"), trial.Fields("A", "1", "A", "2"), true},
		{[]string{"a"}, trial.Fields("A", "1", "A", "2"), trial.Fields("A", "1, 2"), true},
		{[]string{"a"}, trial.Fields("A", "1", "A", "2"), trial.Fields("A", "1,2"), false},
		{[]string{"a"}, trial.Fields("A", "1", "A", "1"), trial.Fields("A", "1"), false},
		{[]string{"a", "B"}, l, trial.Fields("a", "1", "b", "2"), true},
		{[]string{"Accept"}, trial.Fields("accept", "x"), trial.Fields("ACCEPT", "x"), true},
		{[]string{"a"}, trial.Fields("A", "x"), trial.Fields("A", "X"), false},
		{[]string{"a"}, trial.Fields("A", "x"), trial.Fields("A", "x "), false},
		{[]string{"a"}, trial.Fields("A", "\xe4"), trial.Fields("A", "\xc4"), false},
		{[]string{"a"}, trial.Fields("A", ""), nil, false},
		{[]string{"a"}, trial.Fields("A", "-"), nil, false},
		{[]string{"a"}, trial.Fields("A", "-"), trial.Fields("A", ""), false},
		{[]string{"a"}, trial.Fields("A", ""), trial.Fields("a", ""), true},
		{[]string{"a"}, trial.Fields("A", ""), trial.Fields("A", "", "A", ""), false},
		{[]string{"a", "b"}, trial.Fields("A", ""), trial.Fields("B", ""), false},
		{[]string{""}, trial.Fields("", "1"), trial.Fields("", "1"), true},
		{[]string{""}, trial.Fields("", "1"), trial.Fields("", "2"), false},
		{[]string{""}, trial.Fields("", "1"), trial.Fields("a", "1"), false},
		{[]string{"*"}, l, trial.Fields("A", "4"), true},
	} {
		isSame(t, c.names, c.a, c.b, c.want)
	}
}

// TestSameOfEachMixture holds each pair of short lists of fields against the plain reading, of names with and without colons and commas.
func TestSameOfEachMixture(t *testing.T) {
	var lists [][]api.Field
	trial.Lists(few, 2, func(l []api.Field) { lists = append(lists, l) })
	trial.Lists([]string{"a", "B", "", "a:b", "a:1:1,"}, 2, func(names []string) {
		for _, a := range lists {
			for _, b := range lists {
				if same := Same(names, a, b); same != plainSame(names, a, b) || same != (plainKey(names, a) == plainKey(names, b)) {
					t.Errorf("Same(%q, %q, %q) is %v", names, a, b, same)
				}
			}
		}
	})
}

// P11.4

func TestKeysThatWouldRunIntoEachOther(t *testing.T) {
	for _, c := range []struct {
		names []string
		a, b  []api.Field
	}{
		{[]string{"a", "b"}, trial.Fields("a", "1,b:2", "b", "3"), trial.Fields("a", "1", "b", "2,b:3")},
		{[]string{"a", "b"}, trial.Fields("a", "1", "b", "2"), trial.Fields("a", "1,b:1:2", "b", "")},
		{[]string{"a", "b"}, trial.Fields("a", "1,b:-"), trial.Fields("a", "1", "b", "-")},
		{[]string{"a", "b"}, trial.Fields("a", "1,b:-"), trial.Fields("a", "1")},
		{[]string{"a", "b"}, trial.Fields("a", "x,b:y"), trial.Fields("a", "x", "b", "y")},
		{[]string{"a", "b"}, trial.Fields("a", "x,b:-,"), trial.Fields("a", "x,")},
		{[]string{"a", "b"}, trial.Fields("a", ",b:", "b", ""), trial.Fields("a", "", "b", ",b:")},
		{[]string{"a", "a"}, trial.Fields("a", "1,a:1"), trial.Fields("a", "1")},
		{[]string{"a", "b"}, trial.Fields("a", "1"), trial.Fields("b", "1")},
		{[]string{"a", "b"}, trial.Fields("a", "12", "b", "3"), trial.Fields("a", "1", "b", "23")},
		{[]string{"a", "b"}, trial.Fields("a", "", "b", "1"), trial.Fields("a", "1", "b", "")},
		{[]string{"a", "a1"}, trial.Fields("a", "1"), trial.Fields("a1", "1")},
		{[]string{"", ""}, trial.Fields("", ",:"), trial.Fields("", ":,")},
		{[]string{"", "-"}, trial.Fields("", "-"), trial.Fields("-", "")},
		{[]string{"a"}, trial.Fields("a", "-"), nil},
		{[]string{"a"}, trial.Fields("a", ""), nil},
		{[]string{"a"}, trial.Fields("a", "0:"), trial.Fields("a", "")},
		{[]string{"a"}, trial.Fields("a", "1, 2"), trial.Fields("a", "1", "a", "3")},
		{[]string{"1", "11"}, trial.Fields("1", "1"), trial.Fields("11", "1")},
	} {
		isSame(t, c.names, c.a, c.b, false)
	}
}

// TestOneKeyJustOfOneText looks whether what two requests have of names without colons and commas is alike just where their Keys are.
func TestOneKeyJustOfOneText(t *testing.T) {
	parts := []string{"", "-", "a", "1", ":", ",", ":-,", ",b:", "1:", "0:,", "b:1:1,", "1, 1"}
	var values []string
	trial.Texts(parts[1:], 2, func(s string) { values = append(values, s) })
	var of []api.Field
	for _, value := range values {
		of = append(of, trial.Fields("a", value, "B", value)...)
	}
	of = append(of, trial.Fields("", "", "-", "1", "1", ",")...)
	for _, names := range [][]string{nil, {"a"}, {"a", "b"}, {"b", "A"}, {"", "b"}, {"-", "1", "a"}, {"a", "a", ""}} {
		byKey, byTexts := map[string]string{}, map[string]string{}
		trial.Lists(of, 2, func(l []api.Field) {
			texts := ""
			for _, name := range names {
				texts += fmt.Sprintf("%q", had(l, name))
			}
			key := Key(names, l)
			if before, there := byKey[key]; there && before != texts {
				t.Errorf("of %q the Key %q is of %s and of %s", names, key, before, texts)
			}
			if before, there := byTexts[texts]; there && before != key {
				t.Errorf("of %q what has %s has the Keys %q and %q", names, texts, before, key)
			}
			byKey[key], byTexts[texts] = texts, key
		})
	}
}

// What Vary names is what a Key is asked of: the names in any order, and letters of any size, come to one Key.
func TestKeyOfWhatVaryNames(t *testing.T) {
	req := trial.Fields("Accept", "x", "USER-AGENT", "y", "accept", "z")
	trial.Orders([]string{"Accept", "user-agent", "Cookie", "ACCEPT"}, func(order []string) {
		names, ok := Names(trial.Fields("Vary", strings.Join(order[:2], ","), "vary", strings.Join(order[2:], " , ")))
		if !ok {
			t.Errorf("%q name nothing", order)
		}
		isKey(t, names, req, "accept:4:x, z,cookie:-,user-agent:1:y,")
	})
}

// Rules that hold everywhere

// shares tells whether two texts have bytes in common memory.
func shares(a, b string) bool {
	if a == "" || b == "" {
		return false
	}
	x, y := uintptr(unsafe.Pointer(unsafe.StringData(a))), uintptr(unsafe.Pointer(unsafe.StringData(b)))
	return x < y+uintptr(len(b)) && y < x+uintptr(len(a))
}

// What is told is new: lists and texts.
func TestWhatIsToldIsNew(t *testing.T) {
	for _, text := range []string{"only-one", "some-names, other-names, some-names"} {
		l := trial.Fields("Vary", text)
		names, _ := Names(l)
		again, _ := Names(l)
		want := slices.Clone(again)
		for i, name := range names {
			if shares(name, text) || shares(name, again[i]) || shares(name, names[(i+1)%len(names)]) && len(names) > 1 {
				t.Errorf("%q of %q shares its bytes", name, text)
			}
		}
		names = names[:cap(names)]
		for i := range names {
			names[i] = "written over"
		}
		if !slices.Equal(again, want) {
			t.Errorf("%q became %q", want, again)
		}
	}
	names, l := []string{"some-name"}, trial.Fields("Some-Name", "some value")
	key, again := Key(names, l), Key(names, l)
	if shares(key, names[0]) || shares(key, l[0].Name) || shares(key, l[0].Value) || shares(key, again) {
		t.Errorf("%q shares its bytes", key)
	}
	if key := Key([]string{""}, trial.Fields("", key)); shares(key, again) || key != ":24:some-name:10:some value,," {
		t.Errorf("%q", key)
	}
}

// TestWrong hands in names and values of all bytes, and lists that are long.
func TestWrong(t *testing.T) {
	every := ""
	for c := range 256 {
		every += trial.Byte(c)
		for _, name := range []string{"Vary", "", trial.Byte(c), every} {
			for _, value := range []string{trial.Byte(c), every, every[c:], "a," + trial.Byte(c) + ",b"} {
				l, other := trial.Fields(name, value, "A", value, every, "1"), trial.Fields(name, value+" ", every, "1")
				want, ok := plainNames(l)
				areNames(t, l, want, ok)
				names := []string{name, value, every, "a"}
				isKey(t, names, l, plainKey(names, l))
				isSame(t, names, l, other, plainSame(names, l, other))
			}
		}
	}
	var long, want []string
	for i := range 1 << 15 {
		long = append(long, "n"+strconv.Itoa(i*7919%(1<<15)))
		want = append(want, "n"+strconv.Itoa(i))
	}
	sort.Strings(want)
	areNames(t, trial.Fields("Vary", strings.Join(long, ","), "Vary", strings.Join(want, " , ")), want, true)
	areNames(t, trial.Fields("Vary", strings.Join(long, ","), "Vary", "*"), nil, false)
	isKey(t, long, trial.Fields("N5", "1"), strings.ReplaceAll(strings.Join(long, ":-,")+":-,", "n5:-", "n5:1:1"))
	isSame(t, long, trial.Fields("N5", "1"), trial.Fields("n5", "1"), true)
	isSame(t, long, trial.Fields(long[len(long)-1], "1"), trial.Fields(long[len(long)-1], "2"), false)
}

// What is told hangs on what is handed in alone, however many ask at one time.
func TestManyAtOneTime(t *testing.T) {
	l, other := trial.Fields("Vary", "c, B", "A", "1", "vary", "a", "B", "2"), trial.Fields("A", "1")
	var all sync.WaitGroup
	for range 8 {
		all.Go(func() {
			for range 500 {
				names, ok := Names(l)
				if !ok || !slices.Equal(names, []string{"a", "b", "c"}) || Key(names, l) != "a:1:1,b:1:2,c:-," {
					t.Errorf("%q, %v", names, ok)
				}
				if Same(names, l, other) || !Same(names[:1], l, other) {
					t.Errorf("%q and %q in %q", l, other, names)
				}
			}
		})
	}
	all.Wait()
}
