package span

import (
	"math"
	"slices"
	"sync"
	"testing"
	"unsafe"

	"gatepost/api"
	"gatepost/trial"
)

const (
	low  = math.MinInt
	high = math.MaxInt
	body = api.MaxBody
)

// of makes spans of their ends, two by two.
func of(ends ...int) []api.Span {
	var l []api.Span
	for i := 0; i < len(ends); i += 2 {
		l = append(l, api.Span{From: ends[i], To: ends[i+1]})
	}
	return l
}

// row makes so many spans of two places, four places apart: {0,2} {4,6} {8,10} ..
func row(n int) []api.Span {
	var l []api.Span
	for i := range n {
		l = append(l, api.Span{From: 4 * i, To: 4*i + 2})
	}
	return l
}

// with is a list with spans behind it, in new memory.
func with(l []api.Span, ends ...int) []api.Span { return slices.Concat(l, of(ends...)) }

// moved is a list of spans, all so many places further on.
func moved(l []api.Span, by int) []api.Span {
	var all []api.Span
	for _, s := range l {
		all = append(all, api.Span{From: s.From + by, To: s.To + by})
	}
	return all
}

// whole is the span of all places.
var whole = api.Span{From: 0, To: body}

// edges are ints at which what is told changes, and the ends of their range.
var edges = []int{low, low + 1, -body, -2, -1, 0, 1, 2, 3, 4, body - 1, body, body + 1, 1 << 31, high - 1, high}

// wild are all spans of the edges.
func wild() []api.Span {
	var l []api.Span
	for _, from := range edges {
		for _, to := range edges {
			l = append(l, api.Span{From: from, To: to})
		}
	}
	return l
}

// noSets are lists that are no sets.
var noSets = [][]api.Span{
	of(0, 0), of(3, 3), of(body, body), of(3, 2), of(1, 0), of(-1, 0), of(-1, 1), of(-1, -1), of(low, 0), of(low, low), of(low, high), of(0, body+1), of(body, body+1), of(body+1, body+2), of(0, high), of(high, low), of(high, high), of(high-1, high),
	of(0, 2, 2, 4), of(0, 2, 1, 4), of(0, 2, 0, 2), of(4, 6, 0, 2), of(0, 4, 1, 2), of(0, 2, 3, 3), of(0, 2, 4, 3), of(0, 2, -4, -2), of(0, 2, 4, body+1), of(0, 2, 2, 2), of(0, 2, 4, 4, 6, 8), of(0, 2, 4, 6, 5, 8), of(0, 2, 4, 6, 6, 8), of(0, 2, 8, 10, 4, 6), of(low, 0, 2, 4), of(0, high, low, 4),
	of(0, body, 0, body), of(0, body, body, body), of(0, body, body+1, body+2), of(0, body, body+1, body+1), row(33), row(34), row(1000), with(row(32), 1000, 1001), with(row(31), 120, 122), with(row(31), 122, 124), with(row(31), 200, 200), with(row(31), 300, body+1), moved(row(32), -1), moved(row(32), body-125),
}

// noSpans are spans that are none.
func noSpans() []api.Span {
	return slices.DeleteFunc(wild(), plainSpan)
}

// plainSpan is a plain reading of what a span is.
func plainSpan(s api.Span) bool { return s.From >= 0 && s.To >= s.From && body >= s.To }

// plainSet is a plain reading of what a set is.
func plainSet(l []api.Span) bool {
	ok := len(l) <= 32
	for i, s := range l {
		ok = ok && plainSpan(s) && s.From != s.To
		ok = ok && (i == 0 || l[i-1].To < s.From)
	}
	return ok
}

// places are those of any spans, each told by itself, from a first one on.
func places(l []api.Span, first, n int) []bool {
	has := make([]bool, n)
	for _, s := range l {
		for p := s.From; p < s.To; p++ {
			has[p-first] = true
		}
	}
	return has
}

// spans makes a set of places that are told each by itself.
func spans(has []bool, first int) []api.Span {
	var l []api.Span
	for p, ok := range has {
		if ok && p > 0 && has[p-1] {
			l[len(l)-1].To++
		} else if ok {
			l = append(l, api.Span{From: first + p, To: first + p + 1})
		}
	}
	return l
}

// mixed makes places of those of two lists.
func mixed(a, b []bool, how func(a, b bool) bool) []bool {
	both := make([]bool, len(a))
	for p := range a {
		both[p] = how(a[p], b[p])
	}
	return both
}

func either(a, b bool) bool { return a || b }
func both(a, b bool) bool   { return a && b }
func first(a, b bool) bool  { return a && !b }
func second(a, b bool) bool { return b && !a }

// answers are what all calls tell of a list and a span.
type answers struct {
	valid, has           bool
	add, remove          []api.Span
	addError, removeFail api.Errno
	size                 int
	gaps, cut            []api.Span
}

// ask calls all that the package has.
func ask(l []api.Span, s api.Span) answers {
	var a answers
	a.valid, a.has, a.size = Valid(l), Has(l, s), Size(l)
	a.add, a.addError = Add(l, s)
	a.remove, a.removeFail = Remove(l, s)
	a.gaps, a.cut = Gaps(l, s), Cut(l, s)
	return a
}

// same tells whether two answers are alike.
func (a answers) same(b answers) bool {
	return a.valid == b.valid && a.has == b.has && a.size == b.size && a.addError == b.addError && a.removeFail == b.removeFail &&
		slices.Equal(a.add, b.add) && slices.Equal(a.remove, b.remove) && slices.Equal(a.gaps, b.gaps) && slices.Equal(a.cut, b.cut)
}

// full tells a set as P13.2 does.
func full(l []api.Span) ([]api.Span, api.Errno) {
	if len(l) > 32 {
		return nil, api.Errno(14)
	}
	return l, 0
}

// plain is a plain reading of the chapter: it goes over the places one by one, from a first one on.
func plain(l []api.Span, s api.Span, from, n int) answers {
	a := answers{valid: plainSet(l), addError: 2, removeFail: 2}
	if a.valid {
		for _, ok := range places(l, from, n) {
			if ok {
				a.size++
			}
		}
	}
	if !a.valid || !plainSpan(s) {
		return a
	}
	set, one := places(l, from, n), places([]api.Span{s}, from, n)
	a.add, a.addError = full(spans(mixed(set, one, either), from))
	a.remove, a.removeFail = full(spans(mixed(set, one, first), from))
	a.gaps, a.cut = spans(mixed(set, one, second), from), spans(mixed(set, one, both), from)
	a.has = len(a.gaps) == 0
	return a
}

// check holds what is told of a list and a span against the plain reading.
func check(t *testing.T, l []api.Span, s api.Span, from, n int) {
	if got, want := ask(l, s), plain(l, s, from, n); !got.same(want) {
		t.Errorf("%v, %v: %+v, not %+v", l, s, got, want)
	}
}

// P13.1: what is a set.

func TestValid(t *testing.T) {
	for _, l := range [][]api.Span{
		nil, {}, of(0, 1), of(1, 2), of(0, body), of(0, body-1), of(1, body), of(body-1, body), of(0, 2, 3, 4), of(0, 1, 2, body), of(0, 2, 4, 6, 7, 8), of(0, body-2, body-1, body), row(2), row(31), row(32), moved(row(32), 1), moved(row(32), body-126),
	} {
		if !Valid(l) {
			t.Error(l)
		}
	}
	for _, l := range noSets {
		if Valid(l) {
			t.Error(l)
		}
	}
}

// TestValidEnds tells each From and each To beside each other.
func TestValidEnds(t *testing.T) {
	for _, s := range wild() {
		if got := Valid([]api.Span{s}); got != (s.From >= 0 && s.From < s.To && s.To <= body) {
			t.Error(s, got)
		}
		for _, l := range [][]api.Span{{{From: 2, To: 3}, s}, {s, {From: 2, To: 3}}, {{From: 0, To: 1}, s, {From: body - 2, To: body}}, {s, s}, {s, s, s}} {
			if got := Valid(l); got != plainSet(l) {
				t.Error(l, got)
			}
		}
	}
}

func TestValidLists(t *testing.T) {
	var all []api.Span
	for from := -1; from < 6; from++ {
		for to := -1; to < 6; to++ {
			all = append(all, api.Span{From: from, To: to})
		}
	}
	sets := 0
	trial.Lists(all, 3, func(l []api.Span) {
		for _, by := range []int{0, body - 4} {
			l := moved(l, by)
			if got := Valid(l); got != plainSet(l) {
				t.Error(l, got)
			} else if got {
				sets++
			}
		}
	})
	if sets < 60 {
		t.Error(sets)
	}
}

// TestValidLength tells lists of each length, each with one span in each place that is wrong, or not.
func TestValidLength(t *testing.T) {
	for n := range 40 {
		for _, by := range []int{0, body - 200} {
			l := moved(row(n), by)
			if Valid(l) != (n <= 32) {
				t.Error(n)
			}
			for i := range l {
				for from := l[i].From - 5; from <= l[i].From+5; from++ {
					for to := from - 1; to < from+6; to++ {
						other := slices.Clone(l)
						other[i] = api.Span{From: from, To: to}
						if Valid(other) != plainSet(other) {
							t.Error(other)
						}
					}
				}
			}
		}
	}
}

// P13.2: a set with a span, and without one.

// changes are sets, spans, and what Add and Remove tell of them.
var changes = []struct {
	l           []api.Span
	s           api.Span
	add, remove []api.Span
}{
	{nil, api.Span{}, nil, nil},
	{nil, api.Span{From: 3, To: 3}, nil, nil},
	{nil, api.Span{From: body, To: body}, nil, nil},
	{nil, api.Span{From: 0, To: 1}, of(0, 1), nil},
	{nil, api.Span{From: body - 1, To: body}, of(body-1, body), nil},
	{nil, whole, of(0, body), nil},
	{of(2, 4, 6, 8), api.Span{From: 4, To: 6}, of(2, 8), of(2, 4, 6, 8)}, // the chapter's
	// no place: at a set's beginning, its end, within, between, outside
	{of(2, 4, 6, 8), api.Span{From: 0, To: 0}, of(2, 4, 6, 8), of(2, 4, 6, 8)},
	{of(2, 4, 6, 8), api.Span{From: 1, To: 1}, of(2, 4, 6, 8), of(2, 4, 6, 8)},
	{of(2, 4, 6, 8), api.Span{From: 2, To: 2}, of(2, 4, 6, 8), of(2, 4, 6, 8)},
	{of(2, 4, 6, 8), api.Span{From: 3, To: 3}, of(2, 4, 6, 8), of(2, 4, 6, 8)},
	{of(2, 4, 6, 8), api.Span{From: 4, To: 4}, of(2, 4, 6, 8), of(2, 4, 6, 8)},
	{of(2, 4, 6, 8), api.Span{From: 5, To: 5}, of(2, 4, 6, 8), of(2, 4, 6, 8)},
	{of(2, 4, 6, 8), api.Span{From: 6, To: 6}, of(2, 4, 6, 8), of(2, 4, 6, 8)},
	{of(2, 4, 6, 8), api.Span{From: 7, To: 7}, of(2, 4, 6, 8), of(2, 4, 6, 8)},
	{of(2, 4, 6, 8), api.Span{From: 8, To: 8}, of(2, 4, 6, 8), of(2, 4, 6, 8)},
	{of(2, 4, 6, 8), api.Span{From: 9, To: 9}, of(2, 4, 6, 8), of(2, 4, 6, 8)},
	{of(2, 4, 6, 8), api.Span{From: body, To: body}, of(2, 4, 6, 8), of(2, 4, 6, 8)},
	{of(2, 4, 5, 7), api.Span{From: 4, To: 4}, of(2, 4, 5, 7), of(2, 4, 5, 7)},
	{of(0, 2), api.Span{From: 0, To: 0}, of(0, 2), of(0, 2)},
	{of(4, body), api.Span{From: body, To: body}, of(4, body), of(4, body)},
	{of(0, body), api.Span{From: 5, To: 5}, of(0, body), of(0, body)},
	// touching: on the left, on the right, on both sides, on neither
	{of(4, 6), api.Span{From: 2, To: 4}, of(2, 6), of(4, 6)},
	{of(4, 6), api.Span{From: 6, To: 8}, of(4, 8), of(4, 6)},
	{of(4, 6), api.Span{From: 2, To: 3}, of(2, 3, 4, 6), of(4, 6)},
	{of(4, 6), api.Span{From: 7, To: 8}, of(4, 6, 7, 8), of(4, 6)},
	{of(4, 6, 8, 10), api.Span{From: 6, To: 7}, of(4, 7, 8, 10), of(4, 6, 8, 10)},
	{of(4, 6, 8, 10), api.Span{From: 7, To: 8}, of(4, 6, 7, 10), of(4, 6, 8, 10)},
	{of(4, 6, 7, 10), api.Span{From: 6, To: 7}, of(4, 10), of(4, 6, 7, 10)},
	{of(4, 6, 10, 12), api.Span{From: 7, To: 9}, of(4, 6, 7, 9, 10, 12), of(4, 6, 10, 12)},
	// overlapping: one, several, all
	{of(4, 8), api.Span{From: 2, To: 6}, of(2, 8), of(6, 8)},
	{of(4, 8), api.Span{From: 6, To: 10}, of(4, 10), of(4, 6)},
	{of(4, 8), api.Span{From: 4, To: 6}, of(4, 8), of(6, 8)},
	{of(4, 8), api.Span{From: 6, To: 8}, of(4, 8), of(4, 6)},
	{of(2, 4, 6, 8, 10, 12), api.Span{From: 3, To: 7}, of(2, 8, 10, 12), of(2, 3, 7, 8, 10, 12)},
	{of(2, 4, 6, 8, 10, 12), api.Span{From: 7, To: 11}, of(2, 4, 6, 12), of(2, 4, 6, 7, 11, 12)},
	{of(2, 4, 6, 8, 10, 12), api.Span{From: 3, To: 11}, of(2, 12), of(2, 3, 11, 12)},
	{of(2, 4, 6, 8, 10, 12), api.Span{From: 2, To: 12}, of(2, 12), nil},
	{of(2, 4, 6, 8, 10, 12), api.Span{From: 1, To: 13}, of(1, 13), nil},
	{of(2, 4, 6, 8, 10, 12), api.Span{From: 4, To: 10}, of(2, 12), of(2, 4, 10, 12)},
	{of(2, 4, 6, 8, 10, 12), whole, of(0, body), nil},
	// within one, around one, one itself
	{of(2, 8), api.Span{From: 4, To: 6}, of(2, 8), of(2, 4, 6, 8)},
	{of(2, 8, 20, 22), api.Span{From: 3, To: 4}, of(2, 8, 20, 22), of(2, 3, 4, 8, 20, 22)},
	{of(4, 6), api.Span{From: 2, To: 8}, of(2, 8), nil},
	{of(4, 6, 10, 12), api.Span{From: 3, To: 7}, of(3, 7, 10, 12), of(10, 12)},
	{of(4, 6), api.Span{From: 4, To: 6}, of(4, 6), nil},
	{of(0, 2, 4, 6, 8, 10), api.Span{From: 4, To: 6}, of(0, 2, 4, 6, 8, 10), of(0, 2, 8, 10)},
	{of(0, body), whole, of(0, body), nil},
	{of(0, body), api.Span{From: 0, To: body - 1}, of(0, body), of(body-1, body)},
	{of(0, body), api.Span{From: 1, To: body}, of(0, body), of(0, 1)},
	{of(0, body), api.Span{From: 1, To: body - 1}, of(0, body), of(0, 1, body-1, body)},
	{of(1, body-1), whole, of(0, body), nil},
	// between two, outside
	{of(2, 4, 10, 12), api.Span{From: 6, To: 8}, of(2, 4, 6, 8, 10, 12), of(2, 4, 10, 12)},
	{of(4, 6), api.Span{From: 0, To: 2}, of(0, 2, 4, 6), of(4, 6)},
	{of(4, 6), api.Span{From: body - 1, To: body}, of(4, 6, body-1, body), of(4, 6)},
	// 31 and 32 spans
	{row(31), api.Span{From: 124, To: 126}, row(32), row(31)},
	{row(31), api.Span{From: body - 1, To: body}, with(row(31), body-1, body), row(31)},
	{row(31), api.Span{From: 41, To: 41}, row(31), row(31)},
	{row(31), api.Span{From: 0, To: 122}, of(0, 122), nil},
	{row(32), api.Span{From: 2, To: 4}, with(of(0, 6), ends(row(32)[2:])...), row(32)},
	{row(32), api.Span{From: 2, To: 3}, with(of(0, 3), ends(row(32)[1:])...), row(32)},
	{row(32), api.Span{From: 122, To: 124}, with(row(30), 120, 126), row(32)},
	{row(32), api.Span{From: 126, To: 127}, with(row(31), 124, 127), row(32)},
	{row(32), api.Span{From: 1, To: 1}, row(32), row(32)},
	{row(32), api.Span{From: 3, To: 3}, row(32), row(32)},
	{row(32), api.Span{From: 200, To: 200}, row(32), row(32)},
	{row(32), api.Span{From: 0, To: 1}, row(32), with(of(1, 2), ends(row(32)[1:])...)},
	{row(32), api.Span{From: 1, To: 2}, row(32), with(of(0, 1), ends(row(32)[1:])...)},
	{row(32), api.Span{From: 0, To: 2}, row(32), row(32)[1:]},
	{row(32), api.Span{From: 124, To: 126}, row(32), row(31)},
	{row(32), api.Span{From: 1, To: 5}, with(of(0, 6), ends(row(32)[2:])...), with(of(0, 1, 5, 6), ends(row(32)[2:])...)},
	{row(32), whole, of(0, body), nil},
}

// ends are those of spans, two by two.
func ends(l []api.Span) []int {
	var all []int
	for _, s := range l {
		all = append(all, s.From, s.To)
	}
	return all
}

func TestAdd(t *testing.T) {
	for _, c := range changes {
		if got, e := Add(c.l, c.s); !slices.Equal(got, c.add) || e != 0 {
			t.Errorf("%v and %v: %v %d, not %v", c.l, c.s, got, e, c.add)
		}
	}
}

func TestRemove(t *testing.T) {
	for _, c := range changes {
		if got, e := Remove(c.l, c.s); !slices.Equal(got, c.remove) || e != 0 {
			t.Errorf("%v without %v: %v %d, not %v", c.l, c.s, got, e, c.remove)
		}
	}
}

func TestFull(t *testing.T) {
	at := func(from int) []api.Span { return with(of(from, from+1), ends(moved(row(31), from+3))...) } // 32 spans
	for _, c := range []struct {
		l          []api.Span
		s          api.Span
		n, add     int // how many spans Add tells, and its error
		left, fail int // the same of Remove
	}{
		{row(31), api.Span{From: 123, To: 124}, 32, 0, 31, 0},
		{at(0)[:31], api.Span{From: 1, To: 2}, 31, 0, 31, 0},
		{row(32), api.Span{From: 127, To: 128}, 0, 14, 32, 0},
		{row(32), api.Span{From: body - 1, To: body}, 0, 14, 32, 0},
		{at(2), api.Span{From: 0, To: 1}, 0, 14, 32, 0},
		{at(2), api.Span{From: 1, To: 2}, 32, 0, 32, 0},
		{at(2), api.Span{From: 0, To: 2}, 32, 0, 32, 0},
		{moved(row(32), 1), api.Span{From: 4, To: 4}, 32, 0, 32, 0},
		{append(moved(row(16), 0), moved(row(16), 100)...), api.Span{From: 80, To: 90}, 0, 14, 32, 0},
		{append(moved(row(16), 0), moved(row(16), 100)...), api.Span{From: 63, To: 99}, 0, 14, 32, 0},
		{append(moved(row(16), 0), moved(row(16), 100)...), api.Span{From: 62, To: 99}, 32, 0, 32, 0},
		{append(moved(row(16), 0), moved(row(16), 100)...), api.Span{From: 63, To: 100}, 32, 0, 32, 0},
		{append(moved(row(16), 0), moved(row(16), 100)...), api.Span{From: 62, To: 100}, 31, 0, 32, 0},
		{with(row(31), 200, 203), api.Span{From: 201, To: 202}, 32, 0, 0, 14},
		{with(row(31), 200, 203), api.Span{From: 200, To: 202}, 32, 0, 32, 0},
		{with(row(31), 200, 203), api.Span{From: 201, To: 203}, 32, 0, 32, 0},
		{with(row(31), 200, 203), api.Span{From: 200, To: 203}, 32, 0, 31, 0},
		{with(row(31), 200, 203), api.Span{From: 121, To: 202}, 31, 0, 32, 0},
		{with(row(30), 200, 203), api.Span{From: 201, To: 202}, 31, 0, 32, 0},
		{with(of(0, 3), ends(moved(row(31), 10))...), api.Span{From: 1, To: 2}, 32, 0, 0, 14},
		{with(row(31), 200, body), api.Span{From: 300, To: body - 1}, 32, 0, 0, 14},
		{with(row(31), 200, body), api.Span{From: 300, To: body}, 32, 0, 32, 0},
		{with(row(31), 200, body), api.Span{From: 300, To: 300}, 32, 0, 32, 0},
	} {
		if !plainSet(c.l) {
			t.Fatal(c.l)
		}
		if got, e := Add(c.l, c.s); len(got) != c.n || int(e) != c.add {
			t.Errorf("%v and %v: %v %d", c.l, c.s, got, e)
		}
		if got, e := Remove(c.l, c.s); len(got) != c.left || int(e) != c.fail {
			t.Errorf("%v without %v: %v %d", c.l, c.s, got, e)
		}
	}
}

// P13.3: what of a span a set has.

func TestHasGapsCut(t *testing.T) {
	two := of(2, 4, 6, 8)
	for _, c := range []struct {
		l    []api.Span
		s    api.Span
		has  bool
		gaps []api.Span
		cut  []api.Span
	}{
		{of(2, 4), api.Span{From: 0, To: 5}, false, of(0, 2, 4, 5), of(2, 4)}, // the chapter's
		{nil, api.Span{}, true, nil, nil},
		{nil, api.Span{From: 5, To: 5}, true, nil, nil},
		{nil, api.Span{From: body, To: body}, true, nil, nil},
		{nil, api.Span{From: 0, To: 1}, false, of(0, 1), nil},
		{nil, whole, false, of(0, body), nil},
		{two, api.Span{From: 0, To: 0}, true, nil, nil},
		{two, api.Span{From: 2, To: 2}, true, nil, nil},
		{two, api.Span{From: 3, To: 3}, true, nil, nil},
		{two, api.Span{From: 4, To: 4}, true, nil, nil},
		{two, api.Span{From: 5, To: 5}, true, nil, nil},
		{two, api.Span{From: 8, To: 8}, true, nil, nil},
		{two, api.Span{From: 9, To: 9}, true, nil, nil},
		{two, api.Span{From: 2, To: 4}, true, nil, of(2, 4)},
		{two, api.Span{From: 6, To: 8}, true, nil, of(6, 8)},
		{two, api.Span{From: 2, To: 3}, true, nil, of(2, 3)},
		{two, api.Span{From: 3, To: 4}, true, nil, of(3, 4)},
		{two, api.Span{From: 1, To: 2}, false, of(1, 2), nil},
		{two, api.Span{From: 1, To: 3}, false, of(1, 2), of(2, 3)},
		{two, api.Span{From: 3, To: 5}, false, of(4, 5), of(3, 4)},
		{two, api.Span{From: 4, To: 5}, false, of(4, 5), nil},
		{two, api.Span{From: 4, To: 6}, false, of(4, 6), nil},
		{two, api.Span{From: 5, To: 6}, false, of(5, 6), nil},
		{two, api.Span{From: 3, To: 7}, false, of(4, 6), of(3, 4, 6, 7)},
		{two, api.Span{From: 2, To: 8}, false, of(4, 6), two},
		{two, api.Span{From: 1, To: 9}, false, of(1, 2, 4, 6, 8, 9), two},
		{two, api.Span{From: 5, To: 7}, false, of(5, 6), of(6, 7)},
		{two, api.Span{From: 7, To: 9}, false, of(8, 9), of(7, 8)},
		{two, api.Span{From: 8, To: 9}, false, of(8, 9), nil},
		{two, whole, false, of(0, 2, 4, 6, 8, body), two},
		{of(0, body), whole, true, nil, of(0, body)},
		{of(0, body), api.Span{From: 5, To: 7}, true, nil, of(5, 7)},
		{of(1, body), whole, false, of(0, 1), of(1, body)},
		{of(0, body-1), whole, false, of(body-1, body), of(0, body-1)},
		{of(0, 2, 3, body), whole, false, of(2, 3), of(0, 2, 3, body)},
		{row(32), api.Span{From: 0, To: 126}, false, moved(row(31), 2), row(32)},
		{row(32), api.Span{From: 1, To: 125}, false, moved(row(31), 2), with(with(of(1, 2), ends(row(31)[1:])...), 124, 125)},
	} {
		if got := Has(c.l, c.s); got != c.has {
			t.Errorf("%v has %v: %v", c.l, c.s, got)
		}
		if got := Gaps(c.l, c.s); !slices.Equal(got, c.gaps) {
			t.Errorf("%v in %v: %v, not %v", c.l, c.s, got, c.gaps)
		}
		if got := Cut(c.l, c.s); !slices.Equal(got, c.cut) {
			t.Errorf("%v of %v: %v, not %v", c.s, c.l, got, c.cut)
		}
	}
}

// TestMostGaps tells the 33 gaps of 32 spans in the whole, which are no set any more.
func TestMostGaps(t *testing.T) {
	l := moved(row(32), 2)
	gaps := with(row(32), 128, body)
	if got := Gaps(l, whole); len(got) != 33 || !slices.Equal(got, gaps) || Valid(got) {
		t.Error(got)
	}
	if got := Cut(l, whole); !slices.Equal(got, l) {
		t.Error(got)
	}
	if Has(l, whole) || Has(gaps, whole) || Gaps(gaps, whole) != nil || Cut(gaps, whole) != nil {
		t.Error("33 spans")
	}
}

func TestSize(t *testing.T) {
	for _, c := range []struct {
		l    []api.Span
		want int
	}{
		{nil, 0}, {[]api.Span{}, 0}, {of(0, 1), 1}, {of(5, 9), 4}, {of(body-1, body), 1}, {of(0, body), body}, {of(1, body), body - 1}, {of(0, 2, 3, body), body - 1}, {of(2, 4, 6, 8), 4}, {of(2, 4, 6, 9, 100, 110), 15}, {row(31), 62}, {row(32), 64}, {with(row(31), 200, body), body - 138},
	} {
		if got := Size(c.l); got != c.want {
			t.Errorf("%v: %d, not %d", c.l, got, c.want)
		}
	}
	for _, l := range noSets {
		if got := Size(l); got != 0 {
			t.Errorf("%v: %d", l, got)
		}
	}
}

// All of them against the plain reading.

// TestEachSet goes over each set of nine places, at the beginning and at the end of a body, with each span of them.
func TestEachSet(t *testing.T) {
	const n = 9
	for _, from := range []int{0, 1, 1000, body - n} {
		for bits := range 1 << n {
			has := make([]bool, n)
			for p := range n {
				has[p] = bits>>p&1 == 1
			}
			l := spans(has, from)
			for a := from; a <= from+n; a++ {
				for b := a; b <= from+n; b++ {
					check(t, l, api.Span{From: a, To: b}, from, n)
				}
			}
		}
	}
}

// TestEachPair goes over lists of two spans, sets or not, with each span, one or none.
func TestEachPair(t *testing.T) {
	var all []api.Span
	for from := -1; from < 5; from++ {
		for to := -1; to < 5; to++ {
			all = append(all, api.Span{From: from, To: to})
		}
	}
	trial.Lists(all, 2, func(l []api.Span) {
		for _, s := range all {
			check(t, l, s, 0, 5)
			check(t, moved(l, body-3), api.Span{From: s.From + body - 3, To: s.To + body - 3}, body-4, 4)
		}
	})
}

// numbers makes a row of numbers that looks as if it had none.
func numbers(seed uint64) func(below int) int {
	return func(below int) int {
		seed = seed*6364136223846793005 + 1442695040888963407
		return int(seed>>33) % below
	}
}

// TestMany adds and takes away many spans, one behind the other, so that sets become great, full, and small again.
func TestMany(t *testing.T) {
	const n = 140
	most, filled := 0, [2]int{}
	for seed := range 60 {
		next := numbers(uint64(seed))
		from := []int{0, 500, body - n}[seed%3]
		var l []api.Span
		for range 400 {
			a := from + next(n)
			s := api.Span{From: a, To: min(from+n, a+next(2+seed%2))}
			check(t, l, s, from, n)
			call := next(2)
			told, e := []func([]api.Span, api.Span) ([]api.Span, api.Errno){Add, Remove}[call](l, s)
			if e != 0 {
				filled[call]++
				continue
			}
			l = told
			most = max(most, len(l))
		}
	}
	if most != 32 || filled[0] < 50 || filled[1] < 5 {
		t.Error(most, filled)
	}
}

// TestGreatSets holds sets of 31 and 32 spans against the plain reading, with each span of some ends.
func TestGreatSets(t *testing.T) {
	for _, l := range [][]api.Span{row(31), row(32), moved(row(31), 3), moved(row(32), 3), with(row(31), 124, 130), with(of(0, 3), ends(moved(row(31), 6))...), append(row(16), moved(row(16), 64+3)...)} {
		for a := range 12 {
			for b := a; b <= 134; b++ {
				check(t, l, api.Span{From: a, To: b}, 0, 134)
				check(t, l, api.Span{From: 134 - b, To: 134 - a}, 0, 134)
			}
		}
		for a := 50; a < 70; a++ {
			for b := a; b < 80; b++ {
				check(t, l, api.Span{From: a, To: b}, 0, 134)
			}
		}
		check(t, l, whole, 0, body)
	}
}

// P13.4: what hangs together.

func TestTogether(t *testing.T) {
	const n = 8
	for bits := range 1 << n {
		has := make([]bool, n)
		for p := range n {
			has[p] = bits>>p&1 == 1
		}
		l := spans(has, 0)
		for a := range n + 1 {
			for b := a; b <= n; b++ {
				s := api.Span{From: a, To: b}
				together(t, l, s, n)
			}
		}
	}
	for _, l := range [][]api.Span{row(31), row(32), moved(row(32), 1), with(row(31), 124, 134)} {
		for a := range 134 {
			for b := a; b <= 134; b++ {
				together(t, l, api.Span{From: a, To: b}, 134)
			}
		}
	}
}

// together asks of each place below n how often Gaps and Cut have it, and whether it is there behind Add and Remove.
func together(t *testing.T, l []api.Span, s api.Span, n int) {
	gaps, cut := Gaps(l, s), Cut(l, s)
	more, full := Add(l, s)
	less, split := Remove(l, s)
	for p := range n {
		one := api.Span{From: p, To: p + 1}
		there, asked := Has(l, one), s.From <= p && p < s.To
		if times(gaps, p) != number(asked && !there) || times(cut, p) != number(asked && there) {
			t.Errorf("%v, %v: place %d in %v and %v", l, s, p, gaps, cut)
		}
		if full == 0 && (Has(more, one) != (there || asked) || times(more, p) != number(there || asked)) {
			t.Errorf("%v and %v: place %d in %v", l, s, p, more)
		}
		if split == 0 && (Has(less, one) != (there && !asked) || times(less, p) != number(there && !asked)) {
			t.Errorf("%v without %v: place %d in %v", l, s, p, less)
		}
	}
	if full == 0 && (!Has(more, s) || !Valid(more) || Size(more) != Size(l)+length(gaps)) || full != 0 && more != nil {
		t.Errorf("%v and %v: %v %d", l, s, more, full)
	}
	if split == 0 && (len(Cut(less, s)) != 0 || !Valid(less) || Size(less) != Size(l)-length(cut)) || split != 0 && less != nil {
		t.Errorf("%v without %v: %v %d", l, s, less, split)
	}
}

// times tells how often spans have a place.
func times(l []api.Span, p int) int {
	n := 0
	for _, s := range l {
		n += number(s.From <= p && p < s.To)
	}
	return n
}

// length is how many places spans have together, be they a set or more than one may have.
func length(l []api.Span) int {
	n := 0
	for _, s := range l {
		n += s.To - s.From
	}
	return n
}

// number is 1 of what is so.
func number(ok bool) int {
	if ok {
		return 1
	}
	return 0
}

// Wrong inputs.

func TestWrong(t *testing.T) {
	none := answers{addError: 2, removeFail: 2}
	for _, l := range noSets {
		for _, s := range wild() {
			if got := ask(l, s); !got.same(none) || got.add != nil || got.remove != nil || got.gaps != nil || got.cut != nil {
				t.Errorf("%v, %v: %+v", l, s, got)
			}
		}
	}
	for _, l := range [][]api.Span{nil, {}, of(0, 1), of(2, 4, 6, 8), of(0, body), row(31), row(32)} {
		for _, s := range noSpans() {
			want := none
			want.valid, want.size = true, Size(l)
			if got := ask(l, s); !got.same(want) {
				t.Errorf("%v, %v: %+v", l, s, got)
			}
		}
	}
}

// TestWild holds spans of all edges against the plain reading of what is a span, one and two beside each other.
func TestWild(t *testing.T) {
	all := wild()
	for _, a := range all {
		for _, s := range all {
			l := []api.Span{a}
			ok := plainSet(l) && plainSpan(s)
			_, add := Add(l, s)
			_, remove := Remove(l, s)
			if (add == 0) != ok || (remove == 0) != ok || !ok && (add != 2 || remove != 2) {
				t.Errorf("%v, %v: %d %d", l, s, add, remove)
			}
			if n := Size(Gaps(l, s)) + Size(Cut(l, s)); ok && n != s.To-s.From || !ok && n != 0 {
				t.Errorf("%v, %v: %d", l, s, n)
			}
			if Has(l, s) != (ok && (s.From == s.To || a.From <= s.From && s.To <= a.To)) {
				t.Errorf("%v, %v: %v", l, s, Has(l, s))
			}
		}
	}
}

// What is handed in and out.

// shares tells whether two lists have memory in common, spare room too.
func shares(a, b []api.Span) bool {
	if cap(a) == 0 || cap(b) == 0 {
		return false
	}
	one, other := uintptr(unsafe.Pointer(unsafe.SliceData(a))), uintptr(unsafe.Pointer(unsafe.SliceData(b)))
	size := unsafe.Sizeof(api.Span{})
	return one < other+uintptr(cap(b))*size && other < one+uintptr(cap(a))*size
}

// TestWhatIsHandedIn asks whether lists with spare room read as before, and what was told stays when they are changed.
func TestWhatIsHandedIn(t *testing.T) {
	spare := of(low, high, 3, 5, 0, body, high, low, 0, 0)
	for _, l := range [][]api.Span{nil, of(0, 1), of(2, 4, 6, 8), of(2, 5), of(2, 4, 6, 8, 10, 12), row(31), row(32), of(0, body), of(3, 2), of(0, 2, 2, 4), row(33)} {
		for a := range 14 {
			for _, b := range []int{a - 1, a, a + 1, a + 2, a + 5, 20, 126, body, body + 1} {
				s := api.Span{From: a, To: b}
				room := slices.Concat(spare, l, spare)
				in := room[len(spare) : len(spare)+len(l)]
				before := slices.Clone(room)
				got, want := ask(in, s), ask(slices.Clone(l), s)
				if !slices.Equal(room, before) || !got.same(want) {
					t.Errorf("%v, %v: %v", l, s, room)
				}
				apart(t, got, room)
				for i := range room {
					room[i] = api.Span{From: 7, To: 7}
				}
				if !got.same(want) {
					t.Errorf("%v, %v: %+v, not %+v", l, s, got, want)
				}
			}
		}
	}
}

// apart asks whether no two lists that were told share memory, and none does with what was handed in.
func apart(t *testing.T, a answers, room []api.Span) {
	all := [][]api.Span{room, a.add, a.remove, a.gaps, a.cut}
	for i, one := range all {
		for _, other := range all[:i] {
			if shares(one, other) {
				t.Errorf("%v shares memory with %v", one, other)
			}
		}
	}
}

// TestWhatIsToldIsNew writes over what was told, its spare room too: what is told next is as before.
func TestWhatIsToldIsNew(t *testing.T) {
	for _, l := range [][]api.Span{nil, of(2, 4, 6, 8), row(31), row(32)} {
		for _, s := range []api.Span{{}, {From: 3, To: 3}, {From: 4, To: 6}, {From: 2, To: 4}, {From: 1, To: 7}, whole, {From: 500, To: 501}} {
			told, before := ask(l, s), slices.Clone(l)
			for _, list := range [][]api.Span{told.add, told.remove, told.gaps, told.cut} {
				list = list[:cap(list)]
				for i := range list {
					list[i] = api.Span{From: 9, To: 1}
				}
			}
			if got := ask(l, s); !slices.Equal(l, before) || !got.same(plain(l, s, 0, body)) {
				t.Errorf("%v, %v: %+v", l, s, got)
			}
		}
	}
}

func TestManyAtOneTime(t *testing.T) {
	l := row(30)
	var all sync.WaitGroup
	for range 8 {
		all.Go(func() {
			for a := range 60 {
				for b := a; b < 130; b++ {
					check(t, l, api.Span{From: a, To: b}, 0, 130)
				}
			}
		})
	}
	all.Wait()
	if !slices.Equal(l, row(30)) {
		t.Error(l)
	}
}
