package trial

import (
	"slices"
	"testing"

	"gatepost/api"
)

func TestBytes(t *testing.T) {
	for c := range 256 {
		b := Byte(c)
		if len(b) != 1 || int(b[0]) != c || Narrow(Wide(b)) != b || []rune(Wide(b))[0] != rune(c) {
			t.Errorf("%d: %q, %q", c, b, Wide(b))
		}
	}
	if s := Small("@AMZ[`amz{\xc1\xe1\u00c9"); s != "@amz[`amz{\xc1\xe1\u00c9" {
		t.Errorf("%q", s)
	}
}

func TestText(t *testing.T) {
	if s := Text(3, 0) + Text(2, 1) + Text(0, 9); s != "\x01\x08\x0f\x20\x27" {
		t.Errorf("%q", s)
	}
	for seed := range 255 {
		for i, c := range []byte(Text(300, seed)) {
			if c == 0 || c == Text(300, seed+1)[i] {
				t.Error(seed, i, c)
			}
		}
	}
}

func TestChanged(t *testing.T) {
	seen := map[string]int{}
	Changed("ab", func(s string) { seen[s]++ })
	if len(seen) != 1+2+2*255+3*256-2 || seen["ab"] == 0 || seen["a"] == 0 || seen["b"] == 0 || seen["a\xff"] == 0 || seen["\x00ab"] == 0 || seen["ab\x00"] == 0 {
		t.Error(len(seen))
	}
}

func TestLists(t *testing.T) {
	var texts []string
	Texts([]string{"a", "bc"}, 2, func(s string) { texts = append(texts, s) })
	if !slices.Equal(texts, []string{"", "a", "aa", "abc", "bc", "bca", "bcbc"}) {
		t.Errorf("%q", texts)
	}
	var lists, orders [][]int
	Lists([]int{1, 2}, 2, func(l []int) { lists = append(lists, l) })
	if !slices.EqualFunc(lists, [][]int{{}, {1}, {1, 1}, {1, 2}, {2}, {2, 1}, {2, 2}}, slices.Equal) {
		t.Error(lists)
	}
	Orders([]int{1, 2, 3}, func(l []int) { orders = append(orders, l) })
	if !slices.EqualFunc(orders, [][]int{{1, 2, 3}, {1, 3, 2}, {2, 1, 3}, {2, 3, 1}, {3, 1, 2}, {3, 2, 1}}, slices.Equal) {
		t.Error(orders)
	}
}

func TestFields(t *testing.T) {
	if l := Fields("A", "1", "B", "2"); !slices.Equal(l, []api.Field{{Name: "A", Value: "1"}, {Name: "B", Value: "2"}}) || len(Fields()) != 0 {
		t.Error(l)
	}
}

func TestNames(t *testing.T) {
	l := Fields("A-b", "1", "x", "2", "a-B", "", "A-b ", "3", "\xc1-b", "4", "A-B", "1")
	for name, want := range map[string][]string{"a-b": {"1", "", "1"}, "A-b": {"1", "", "1"}, "X": {"2"}, "": nil, "a": nil} {
		if got := Values(l, name); !slices.Equal(got, want) {
			t.Errorf("%q: %q, not %q", name, got, want)
		}
	}
	if l := Letters("Ab-Cd"); !slices.Equal(l, []string{"Ab-Cd", "ab-cd", "AB-CD", "aB-CD"}) {
		t.Errorf("%q", l)
	}
	if l := Nearly("Aba"); !slices.Equal(l, []string{"", "Aba ", " Aba", "Abas", "ba", "Ab", "Aba\x00", "X-Aba", "\xffba"}) {
		t.Errorf("%q", l)
	}
}

func TestControlAndMeta(t *testing.T) {
	if c := Control(); c != (api.Control{Age: -1, Shared: -1, While: -1, IfError: -1, MinFresh: -1, MaxStale: -1}) {
		t.Error(c)
	}
	if c := Control(func(c *api.Control) { c.Age = 5 }, func(c *api.Control) { c.Must = true }); c != (api.Control{Must: true, Age: 5, Shared: -1, While: -1, IfError: -1, MinFresh: -1, MaxStale: -1}) {
		t.Error(c)
	}
	if m := Meta(); m != (api.Meta{Control: Control(), Date: -1, Expires: -1, Modified: -1, Age: -1, Asked: -1, Got: -1}) {
		t.Error(m)
	}
	if m := Meta(func(m *api.Meta) { m.Code = 200 }, func(m *api.Meta) { m.Tag = "a" }); m != (api.Meta{Code: 200, Control: Control(), Date: -1, Expires: -1, Modified: -1, Age: -1, Asked: -1, Got: -1, Tag: "a"}) {
		t.Error(m)
	}
}

func TestUntouched(t *testing.T) {
	l := Fields("A", "1", "B", "2")
	for _, c := range []struct {
		want bool
		do   func(l []api.Field) []api.Field
	}{
		{true, func([]api.Field) []api.Field { return nil }},
		{true, slices.Clone[[]api.Field]},
		{false, func(l []api.Field) []api.Field { return l }},
		{false, func(l []api.Field) []api.Field { return l[2:] }},
		{false, func(l []api.Field) []api.Field { return l[:0] }},
		{false, func(l []api.Field) []api.Field { l[1].Value = "3"; return nil }},
		{false, func(l []api.Field) []api.Field { return append(l, Fields("C", "3")...)[:0:0] }},
	} {
		if got := Untouched(l, c.do); got != c.want {
			t.Error(got)
		}
	}
	if !Untouched(nil, slices.Clone[[]api.Field]) || !slices.Equal(l, Fields("A", "1", "B", "2")) {
		t.Error(l)
	}
}
