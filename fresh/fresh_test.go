package fresh

import (
	"math"
	"sync"
	"testing"

	"gatepost/api"
	"gatepost/trial"
)

const (
	age  = api.MaxAge
	time = api.MaxTime
	low  = math.MinInt
	high = math.MaxInt
)

// seconds are the edges of a second, and some about one another.
var seconds = []int{low, -2, -1, 0, 1, 95, 100, 110, age - 1, age, age + 1, time - 1, time, time + 1, high}

// mute and blank make what says and tells nothing, but for what the changes set.
var mute, blank = trial.Control, trial.Meta

// times is a meta of which the times of its way are known.
func times(date, said, asked, got int) api.Meta {
	return blank(func(m *api.Meta) { m.Date, m.Age, m.Asked, m.Got = date, said, asked, got })
}

// lasts is a meta that is fresh for so long and is so old where nothing tells now.
func lasts(old, life int, changes ...func(*api.Meta)) api.Meta {
	return blank(append([]func(*api.Meta){func(m *api.Meta) { m.Age, m.Control.Age = old, life }}, changes...)...)
}

// short is a second as the chapter counts it: -1 where nothing tells it, else at most MaxTime.
func short(n int) int {
	if n < 0 {
		return -1
	}
	if n > time {
		return time
	}
	return n
}

// plainAge is a plain reading of P9.1.
func plainAge(m api.Meta, now int) int {
	date, said, asked, got := short(m.Date), short(m.Age), short(m.Asked), short(m.Got)
	now = short(now)
	first, second, third := 0, 0, 0
	if got != -1 && date != -1 && got-date > 0 {
		first = got - date
	}
	if said != -1 {
		second = said
	}
	if got != -1 && asked != -1 && got-asked > 0 {
		second += got - asked
	}
	if now != -1 && got != -1 && now-got > 0 {
		third = now - got
	}
	if second > first {
		first = second
	}
	if first+third > age {
		return age
	}
	return first + third
}

// plainHeuristic is a plain reading of P9.2.
func plainHeuristic(code int) bool {
	switch code {
	case 200, 203, 204, 206, 300, 301, 308, 404, 405, 410, 414, 501:
		return true
	}
	return false
}

// plainLifetime is a plain reading of P9.3.
func plainLifetime(m api.Meta) int {
	date, expires, modified, got := short(m.Date), short(m.Expires), short(m.Modified), short(m.Got)
	n := 0
	if m.Control.Shared >= 0 {
		n = m.Control.Shared
	} else if m.Control.Age >= 0 {
		n = m.Control.Age
	} else if expires != -1 {
		n = expires
		if date != -1 {
			n -= date
		} else if got != -1 {
			n -= got
		}
	} else if plainHeuristic(m.Code) && modified != -1 && date != -1 {
		n = int(math.Floor(float64(date-modified) / 10)) // exact: both are far below 2^53
		if n > 86400 {
			n = 86400
		}
	}
	if n < 0 {
		return 0
	}
	if n > age {
		return age
	}
	return n
}

// plainState is a plain reading of P9.4.
func plainState(m api.Meta, req api.Control, now int) int {
	old, life := plainAge(m, now), plainLifetime(m)
	if req.NoCache || m.Control.NoCache {
		return Stale
	}
	if req.Age >= 0 && req.Age < old {
		return Stale
	}
	if old < life {
		if req.MinFresh >= 0 && req.MinFresh > life-old {
			return Stale
		}
		return Fresh
	}
	late := old - life
	if m.Control.Must || m.Control.Proxy || m.Control.Shared >= 0 {
		return Stale
	}
	if req.MaxStale >= 0 && req.MaxStale >= late {
		return Fresh
	}
	if m.Control.While >= 0 && m.Control.While > late && !(req.MinFresh > 0) {
		return Soon
	}
	return Stale
}

// ask holds Age, Lifetime and State against the plain reading, and what was handed in against itself.
func ask(t *testing.T, m api.Meta, req api.Control, now int) {
	t.Helper()
	before, asked := m, req
	if got, want := Age(m, now), plainAge(m, now); got != want {
		t.Fatalf("Age(%+v, %d) is %d, not %d", m, now, got, want)
	}
	if got, want := Lifetime(m), plainLifetime(m); got != want {
		t.Fatalf("Lifetime(%+v) is %d, not %d", m, got, want)
	}
	if got, want := State(m, req, now), plainState(m, req, now); got != want {
		t.Fatalf("State(%+v, %+v, %d) is %d, not %d", m, req, now, got, want)
	}
	if m != before || req != asked {
		t.Fatalf("%+v and %+v read as %+v and %+v", before, asked, m, req)
	}
}

// P9.1

func TestAge(t *testing.T) {
	for _, c := range []struct {
		date, said, asked, got, now, want int
	}{
		{90, 5, 98, 100, 110, 20}, // the chapter's example
		{-1, -1, -1, -1, -1, 0},
		{-1, -1, -1, -1, 110, 0},
		{90, -1, -1, -1, 110, 0}, // nothing tells when it came
		{-1, -1, 98, -1, 110, 0},
		{-1, 5, 98, -1, 110, 5},

		{90, -1, -1, 100, -1, 10}, // Got behind Date, at it, and before it
		{99, -1, -1, 100, -1, 1},
		{100, -1, -1, 100, -1, 0},
		{101, -1, -1, 100, -1, 0},
		{101, 5, -1, 100, -1, 5},
		{time, 5, 98, 100, 110, 17},
		{0, -1, -1, 100, -1, 100},
		{-1, -1, -1, 100, -1, 0},
		{-2, -1, -1, 100, -1, 0},
		{low, -1, -1, 100, -1, 0},

		{-1, 5, 98, 100, -1, 7}, // Got behind Asked, at it, and before it
		{-1, 5, 99, 100, -1, 6},
		{-1, 5, 100, 100, -1, 5},
		{-1, 5, 101, 100, -1, 5},
		{-1, 5, -1, 100, -1, 5},
		{-1, 5, low, 100, -1, 5},
		{-1, 5, 0, 100, -1, 105},
		{-1, 0, 98, 100, -1, 2},
		{-1, -1, 98, 100, -1, 2}, // no Age, and a time between asking and getting
		{-1, -2, 98, 100, -1, 2},
		{-1, low, 98, 100, -1, 2},
		{-1, low, low, low, low, 0},

		{90, 7, 98, 100, -1, 10}, // Age and the time between together, below, at and above Got less Date
		{90, 8, 98, 100, -1, 10},
		{90, 9, 98, 100, -1, 11},
		{90, 9, 100, 100, -1, 10},
		{90, 10, 100, 100, -1, 10},
		{90, 11, 100, 100, -1, 11},
		{90, -1, 89, 100, -1, 11}, // Asked before Date
		{90, -1, 90, 100, -1, 10},
		{90, -1, 91, 100, -1, 10},

		{-1, -1, -1, 100, 99, 0}, // now before Got, at it, and behind it
		{-1, -1, -1, 100, 100, 0},
		{-1, -1, -1, 100, 101, 1},
		{90, -1, -1, 100, 99, 10},
		{90, -1, -1, 100, 101, 11},
		{90, -1, -1, 100, 0, 10},
		{90, -1, -1, 100, low, 10},
		{0, 0, 0, 0, 0, 0},
		{0, 0, 0, 0, 1, 1},
		{0, 0, 0, 1, 1, 1},
		{0, 0, 0, 1, 2, 2},

		{-1, age - 1, -1, -1, -1, age - 1}, // sums at MaxAge and above
		{-1, age, -1, -1, -1, age},
		{-1, age + 1, -1, -1, -1, age},
		{-1, age - 2, 98, 100, 100, age},
		{-1, age - 3, 98, 100, 100, age - 1},
		{-1, age - 3, 98, 100, 101, age},
		{-1, age - 3, 98, 100, 102, age},
		{0, -1, -1, age - 1, age - 1, age - 1},
		{0, -1, -1, age, age, age},
		{0, -1, -1, age + 1, age + 1, age},
		{-1, -1, -1, 0, age - 1, age - 1},
		{-1, -1, -1, 0, age, age},
		{-1, -1, -1, 0, age + 1, age},
		{0, -1, -1, age / 2, age - 1, age - 1},
		{0, -1, -1, age / 2, age, age},
		{0, -1, -1, age / 2, age + 1, age},

		{time - 5, -1, -1, time, -1, 5}, // at most MaxTime counts
		{time - 5, -1, -1, time + 1, -1, 5},
		{time - 5, -1, -1, high, -1, 5},
		{time, -1, -1, time + 1, -1, 0},
		{time + 1, -1, -1, high, -1, 0},
		{-1, -1, time - 5, high, -1, 5},
		{-1, -1, time + 1, high, -1, 0},
		{-1, -1, -1, time - 5, time, 5},
		{-1, -1, -1, time - 5, time + 1, 5},
		{-1, -1, -1, time - 5, high, 5},
		{-1, -1, -1, time, time + 1, 0},
		{-1, -1, -1, time + 1, high, 0},
		{-1, time, -1, -1, -1, age},
		{-1, high, -1, -1, -1, age},
		{0, high, 0, high, high, age},
		{0, -1, -1, time, -1, age},
		{low, high, low, high, high, age},
		{high, high, high, high, high, age},
		{high, 3, high, high, high, 3},
	} {
		m := times(c.date, c.said, c.asked, c.got)
		if got := Age(m, c.now); got != c.want {
			t.Errorf("Age(Date %d, Age %d, Asked %d, Got %d, %d) is %d, not %d", c.date, c.said, c.asked, c.got, c.now, got, c.want)
		}
		ask(t, m, mute(), c.now)
	}
}

func TestAgeOfEachMixture(t *testing.T) {
	for _, date := range seconds {
		for _, said := range seconds {
			for _, asked := range seconds {
				for _, got := range seconds {
					m := times(date, said, asked, got)
					for _, now := range seconds {
						if told, want := Age(m, now), plainAge(m, now); told != want {
							t.Fatalf("Age(%+v, %d) is %d, not %d", m, now, told, want)
						}
					}
				}
			}
		}
	}
}

func TestAgeOfEachShortWay(t *testing.T) {
	trial.Lists([]int{-1, 0, 1, 2, 3, 4}, 5, func(l []int) {
		if len(l) == 5 {
			ask(t, times(l[0], l[1], l[2], l[3]), mute(), l[4])
		}
	})
}

func TestAgeHangsOnNothingElse(t *testing.T) {
	m := times(90, 5, 98, 100)
	m.Code, m.Expires, m.Modified, m.Tag = 404, 3, 50, `"x"`
	m.Control = api.Control{NoStore: true, NoCache: true, Must: true, Age: 3, Shared: 4, While: 5, MinFresh: 6, MaxStale: 7}
	if got := Age(m, 110); got != 20 {
		t.Errorf("Age(%+v, 110) is %d, not 20", m, got)
	}
}

// P9.2

func TestHeuristic(t *testing.T) {
	kept := []int{200, 203, 204, 206, 300, 301, 308, 404, 405, 410, 414, 501}
	for _, code := range kept {
		if !Heuristic(code) {
			t.Errorf("Heuristic(%d) is false", code)
		}
		for _, far := range []int{1 << 8, 1 << 16, 1 << 32, low, 1000} {
			if Heuristic(code + far) {
				t.Errorf("Heuristic(%d) is true", code+far)
			}
		}
		if Heuristic(-code) {
			t.Errorf("Heuristic(%d) is true", -code)
		}
	}
	n := 0
	for code := -70000; code <= 70000; code++ {
		if Heuristic(code) != plainHeuristic(code) {
			t.Errorf("Heuristic(%d) is %v", code, Heuristic(code))
		}
		if Heuristic(code) {
			n++
		}
	}
	if n != len(kept) {
		t.Errorf("%d codes are kept, not %d", n, len(kept))
	}
	for _, code := range []int{low, low + 200, -1, 0, 1, high - 200, high} {
		if Heuristic(code) {
			t.Errorf("Heuristic(%d) is true", code)
		}
	}
}

// P9.3

// ends is a meta of which is known what makes it end.
func ends(shared, own, expires, date, got, modified, code int) api.Meta {
	return blank(func(m *api.Meta) {
		m.Control.Shared, m.Control.Age, m.Expires = shared, own, expires
		m.Date, m.Got, m.Modified, m.Code = date, got, modified, code
	})
}

func TestLifetime(t *testing.T) {
	for _, c := range []struct {
		shared, own, expires, date, got, modified, code int
		want                                            int
	}{
		{-1, -1, -1, -1, -1, -1, 200, 0},
		{7, 8, 130, 100, 90, 10, 200, 7}, // the first that is told
		{-1, 8, 130, 100, 90, 10, 200, 8},
		{-1, -1, 130, 100, 90, 10, 200, 30},
		{-1, -1, -1, 100, 90, 10, 200, 9},
		{7, -1, -1, -1, -1, -1, 200, 7},
		{-1, 8, -1, -1, -1, -1, 200, 8},
		{7, 8, -1, -1, -1, -1, 0, 7},
		{7, -1, 130, 100, 90, 10, 200, 7},
		{8, 7, -1, -1, -1, -1, 0, 8}, // and not the less
		{0, 8, 130, 100, 90, 10, 200, 0},
		{-1, 0, 130, 100, 90, 10, 200, 0},
		{-1, -1, 0, 100, 90, 10, 200, 0},
		{-1, -1, 100, 100, 90, 10, 200, 0},
		{-2, -2, -2, 100, 90, 10, 200, 9},
		{low, 8, 130, 100, 90, 10, 200, 8},
		{low, low, 130, 100, 90, 10, 200, 30},
		{low, low, low, 100, 90, 10, 200, 9},
		{low, low, low, low, low, low, low, 0},

		{age - 1, 1, 1, 1, 1, 1, 200, age - 1}, // at most MaxAge
		{age, 1, 1, 1, 1, 1, 200, age},
		{age + 1, 1, 1, 1, 1, 1, 200, age},
		{high, 1, 1, 1, 1, 1, 200, age},
		{-1, age - 1, 1, 1, 1, 1, 200, age - 1},
		{-1, age, 1, 1, 1, 1, 200, age},
		{-1, age + 1, 1, 1, 1, 1, 200, age},
		{-1, high, 1, 1, 1, 1, 200, age},
		{-1, -1, age + 99, 100, 1, 1, 200, age - 1},
		{-1, -1, age + 100, 100, 1, 1, 200, age},
		{-1, -1, age + 101, 100, 1, 1, 200, age},
		{-1, -1, high, 100, 1, 1, 200, age},
		{high, high, high, high, high, high, high, age},

		{-1, -1, 99, 100, 50, 10, 200, 0}, // Expires before Date, at it, and behind it
		{-1, -1, 100, 100, 50, 10, 200, 0},
		{-1, -1, 101, 100, 50, 10, 200, 1},
		{-1, -1, 0, 100, 50, 10, 200, 0},
		{-1, -1, 0, 0, 50, 10, 200, 0},
		{-1, -1, 1, 0, 50, 10, 200, 1},
		{-1, -1, 60, 50, 100, 10, 200, 10}, // Date, not Got
		{-1, -1, 99, -1, 100, 10, 200, 0},  // Date is not told
		{-1, -1, 100, -1, 100, 10, 200, 0},
		{-1, -1, 101, -1, 100, 10, 200, 1},
		{-1, -1, 101, low, 100, 10, 200, 1},
		{-1, -1, 101, 100, -1, 10, 200, 1}, // Got is not told
		{-1, -1, 0, -1, -1, 10, 200, 0},    // neither
		{-1, -1, 1, -1, -1, 10, 200, 1},
		{-1, -1, 101, -1, -1, 10, 200, 101},
		{-1, -1, 101, low, low, 10, 200, 101},
		{-1, -1, age, -2, -2, 10, 200, age},
		{-1, -1, age + 1, -1, -1, 10, 200, age},
		{-1, -1, time, time - 5, 50, 10, 200, 5}, // at most MaxTime counts
		{-1, -1, time + 1, time - 5, 50, 10, 200, 5},
		{-1, -1, high, time - 5, 50, 10, 200, 5},
		{-1, -1, high, time, 50, 10, 200, 0},
		{-1, -1, high, time + 1, 50, 10, 200, 0},
		{-1, -1, high, -1, time - 5, 10, 200, 5},
		{-1, -1, high, -1, time + 1, 10, 200, 0},
		{-1, -1, 500, high, 50, 10, 200, 0},
		{-1, -1, 500, -1, high, 10, 200, 0},
		{-1, -1, 130, 100, 90, 10, 302, 30}, // whatever the code is

		{-1, -1, -1, 100, 90, 100, 200, 0}, // a guess of less than a second
		{-1, -1, -1, 100, 90, 99, 200, 0},
		{-1, -1, -1, 100, 90, 91, 200, 0},
		{-1, -1, -1, 100, 90, 90, 200, 1},
		{-1, -1, -1, 100, 90, 89, 200, 1},
		{-1, -1, -1, 100, 90, 81, 200, 1},
		{-1, -1, -1, 100, 90, 80, 200, 2},
		{-1, -1, -1, 100, 90, 0, 200, 10},
		{-1, -1, -1, 100, 90, 101, 200, 0}, // a Modified behind Date
		{-1, -1, -1, 100, 90, 110, 200, 0},
		{-1, -1, -1, 100, 90, high, 200, 0},
		{-1, -1, -1, 100, 90, -1, 200, 0}, // one of them is not told
		{-1, -1, -1, 100, 90, -100, 200, 0},
		{-1, -1, -1, 100, 90, low, 200, 0},
		{-1, -1, -1, -1, 90, 10, 200, 0},
		{-1, -1, -1, low, 90, 10, 200, 0},
		{-1, -1, -1, 0, 90, 0, 200, 0},
		{-1, -1, -1, 863999, 90, 0, 200, 86399}, // a day at most
		{-1, -1, -1, 864000, 90, 0, 200, 86400},
		{-1, -1, -1, 864009, 90, 0, 200, 86400},
		{-1, -1, -1, 864010, 90, 0, 200, 86400},
		{-1, -1, -1, time, 90, 0, 200, 86400},
		{-1, -1, -1, high, 90, 0, 200, 86400},
		{-1, -1, -1, time, 90, time - 20, 200, 2},
		{-1, -1, -1, time + 10, 90, time - 20, 200, 2},
		{-1, -1, -1, high, 90, time - 20, 200, 2},
		{-1, -1, -1, high, 90, time + 1, 200, 0},
		{-1, -1, -1, 100, 90, 10, 199, 0}, // a code that is not kept
		{-1, -1, -1, 100, 90, 10, 201, 0},
		{-1, -1, -1, 100, 90, 10, 302, 0},
		{-1, -1, -1, 100, 90, 10, 0, 0},
		{-1, -1, -1, 100, 90, 10, -200, 0},
		{-1, -1, -1, 100, 90, 10, 501, 9},
		{-1, 8, 130, 100, 90, 10, 302, 8},
	} {
		m := ends(c.shared, c.own, c.expires, c.date, c.got, c.modified, c.code)
		if got := Lifetime(m); got != c.want {
			t.Errorf("Lifetime(%+v) is %d, not %d", m, got, c.want)
		}
		ask(t, m, mute(), 110)
	}
}

func TestLifetimeOfEachMixture(t *testing.T) {
	numbers := []int{low, -1, 0, 5, age, age + 1, high}
	for _, expires := range seconds {
		for _, date := range seconds {
			for _, got := range seconds {
				for _, modified := range seconds {
					for _, code := range []int{200, 302} {
						m := ends(-1, -1, expires, date, got, modified, code)
						if told, want := Lifetime(m), plainLifetime(m); told != want {
							t.Fatalf("Lifetime(%+v) is %d, not %d", m, told, want)
						}
					}
				}
			}
		}
	}
	trial.Lists(numbers, 6, func(l []int) {
		if len(l) < 6 {
			return
		}
		for _, code := range []int{200, 302} {
			m := ends(l[0], l[1], l[2], l[3], l[4], l[5], code)
			if told, want := Lifetime(m), plainLifetime(m); told != want {
				t.Fatalf("Lifetime(%+v) is %d, not %d", m, told, want)
			}
		}
	})
}

func TestLifetimeOfEachGuess(t *testing.T) {
	for code := -1; code < 1000; code++ {
		for old := -21; old <= 121; old++ {
			m := ends(-1, -1, -1, 1000, 90, 1000-old, code)
			want := 0
			if plainHeuristic(code) && old > 0 {
				want = old / 10
			}
			if got := Lifetime(m); got != want {
				t.Fatalf("Lifetime(%+v) is %d, not %d", m, got, want)
			}
		}
	}
	for old := 863980; old < 864040; old++ {
		if got, want := Lifetime(ends(-1, -1, -1, 1000000, -1, 1000000-old, 404)), min(old/10, 86400); got != want {
			t.Errorf("a guess of what is %d old is %d, not %d", old, got, want)
		}
	}
}

func TestLifetimeHangsOnNothingElse(t *testing.T) {
	m := ends(-1, -1, 130, 100, 90, 10, 200)
	m.Age, m.Asked, m.Tag = 50, 60, `"x"`
	m.Control.NoStore, m.Control.NoCache, m.Control.Private, m.Control.Public = true, true, true, true
	m.Control.Must, m.Control.Proxy, m.Control.OnlyCached = true, true, true
	m.Control.While, m.Control.IfError, m.Control.MinFresh, m.Control.MaxStale = 1, 2, 3, 4
	if got := Lifetime(m); got != 30 {
		t.Errorf("Lifetime(%+v) is %d, not 30", m, got)
	}
}

// P9.4

func TestStates(t *testing.T) {
	if Fresh != 0 || Soon != 1 || Stale != 2 {
		t.Errorf("the states are %d, %d, %d", Fresh, Soon, Stale)
	}
}

func TestStateOfTheExample(t *testing.T) {
	m := times(90, 5, 98, 100)
	m.Control.Age = 15
	if got := State(m, mute(), 110); got != Stale {
		t.Errorf("max-age=15 is %d, not Stale", got)
	}
	m.Control.While = 10
	if got := State(m, mute(), 110); got != Soon {
		t.Errorf("max-age=15, stale-while-revalidate=10 is %d, not Soon", got)
	}
	for now, want := range map[int]int{99: Fresh, 100: Fresh, 104: Fresh, 105: Soon, 114: Soon, 115: Stale, 116: Stale} {
		if got := State(m, mute(), now); got != want {
			t.Errorf("at %d it is %d, not %d", now, got, want)
		}
	}
}

func TestState(t *testing.T) {
	reqAge := func(n int) func(*api.Control) { return func(c *api.Control) { c.Age = n } }
	minFresh := func(n int) func(*api.Control) { return func(c *api.Control) { c.MinFresh = n } }
	maxStale := func(n int) func(*api.Control) { return func(c *api.Control) { c.MaxStale = n } }
	while := func(n int) func(*api.Meta) { return func(m *api.Meta) { m.Control.While = n } }
	shared := func(n int) func(*api.Meta) { return func(m *api.Meta) { m.Control.Shared = n } }
	noCache := func(c *api.Control) { c.NoCache = true }
	said := func(set func(*api.Control)) func(*api.Meta) { return func(m *api.Meta) { set(&m.Control) } }
	must := said(func(c *api.Control) { c.Must = true })
	proxy := said(func(c *api.Control) { c.Proxy = true })

	for _, c := range []struct {
		name string
		m    api.Meta
		req  api.Control
		want int
	}{
		{"just below the lifetime", lasts(9, 10), mute(), Fresh},
		{"at the lifetime", lasts(10, 10), mute(), Stale},
		{"just above the lifetime", lasts(11, 10), mute(), Stale},
		{"of no age", lasts(0, 1), mute(), Fresh},
		{"of no age and no lifetime", lasts(0, 0), mute(), Stale},
		{"of a lifetime that nothing tells", blank(), mute(), Stale},
		{"just below MaxAge", lasts(age-1, high), mute(), Fresh},
		{"at MaxAge", lasts(age, high), mute(), Stale},
		{"above MaxAge", lasts(high, high), mute(), Stale},

		{"no-cache of the request", lasts(0, 10), mute(noCache), Stale},
		{"no-cache of the response", lasts(0, 10, said(noCache)), mute(), Stale},
		{"no-cache of both", lasts(0, 10, said(noCache)), mute(noCache), Stale},
		{"no-cache and max-stale", lasts(10, 10), mute(noCache, maxStale(age)), Stale},
		{"no-cache of the response and max-stale", lasts(10, 10, said(noCache)), mute(maxStale(age)), Stale},
		{"no-cache and while", lasts(10, 10, while(5)), mute(noCache), Stale},
		{"no-cache of the response and while", lasts(10, 10, while(5), said(noCache)), mute(), Stale},

		{"max-age just below the age", lasts(9, 100), mute(reqAge(8)), Stale},
		{"max-age at the age", lasts(9, 100), mute(reqAge(9)), Fresh},
		{"max-age just above the age", lasts(9, 100), mute(reqAge(10)), Fresh},
		{"max-age=0 of what is new", lasts(0, 100), mute(reqAge(0)), Fresh},
		{"max-age=0 of what is a second old", lasts(1, 100), mute(reqAge(0)), Stale},
		{"a max-age that is not told", lasts(9, 100), mute(reqAge(-2)), Fresh},
		{"the least max-age", lasts(9, 100), mute(reqAge(low)), Fresh},
		{"the greatest max-age", lasts(9, 100), mute(reqAge(high)), Fresh},
		{"max-age at the age, above the lifetime", lasts(9, 5), mute(reqAge(9)), Stale},
		{"max-age below the age, and max-stale", lasts(9, 5), mute(reqAge(8), maxStale(age)), Stale},
		{"max-age at the age, and max-stale", lasts(9, 5), mute(reqAge(9), maxStale(4)), Fresh},
		{"max-age below the age, and while", lasts(9, 5, while(50)), mute(reqAge(8)), Stale},
		{"max-age at the age, and while", lasts(9, 5, while(50)), mute(reqAge(9)), Soon},
		{"max-age below the greatest age", lasts(high, 5), mute(reqAge(age-1), maxStale(age)), Stale},
		{"max-age at the greatest age", lasts(high, 5), mute(reqAge(age), maxStale(age)), Fresh},

		{"min-fresh just below", lasts(4, 10), mute(minFresh(5)), Fresh},
		{"min-fresh at what is left", lasts(4, 10), mute(minFresh(6)), Fresh},
		{"min-fresh just above", lasts(4, 10), mute(minFresh(7)), Stale},
		{"min-fresh of 0", lasts(9, 10), mute(minFresh(0)), Fresh},
		{"min-fresh of 1", lasts(9, 10), mute(minFresh(1)), Fresh},
		{"min-fresh of 2", lasts(9, 10), mute(minFresh(2)), Stale},
		{"min-fresh that is not told", lasts(9, 10), mute(minFresh(-2)), Fresh},
		{"the least min-fresh", lasts(9, 10), mute(minFresh(low)), Fresh},
		{"the greatest min-fresh", lasts(9, 10), mute(minFresh(high)), Stale},
		{"min-fresh and max-stale of what is fresh", lasts(9, 10), mute(minFresh(2), maxStale(age)), Stale},
		{"min-fresh and while of what is fresh", lasts(9, 10, while(50)), mute(minFresh(2)), Stale},
		{"min-fresh and max-stale of what is late", lasts(10, 10), mute(minFresh(2), maxStale(0)), Fresh},

		{"max-stale just below", lasts(13, 10), mute(maxStale(2)), Stale},
		{"max-stale at what is late", lasts(13, 10), mute(maxStale(3)), Fresh},
		{"max-stale just above", lasts(13, 10), mute(maxStale(4)), Fresh},
		{"max-stale of 0 at the lifetime", lasts(10, 10), mute(maxStale(0)), Fresh},
		{"max-stale of 0 just above", lasts(11, 10), mute(maxStale(0)), Stale},
		{"max-stale that is not told", lasts(10, 10), mute(maxStale(-2)), Stale},
		{"the least max-stale", lasts(10, 10), mute(maxStale(low)), Stale},
		{"the greatest max-stale", lasts(high, 0), mute(maxStale(high)), Fresh},
		{"max-stale of MaxAge", lasts(high, 0), mute(maxStale(age)), Fresh},
		{"max-stale below MaxAge", lasts(high, 0), mute(maxStale(age - 1)), Stale},
		{"max-stale ahead of while", lasts(13, 10, while(50)), mute(maxStale(3)), Fresh},
		{"max-stale too little, and while", lasts(13, 10, while(50)), mute(maxStale(2)), Soon},

		{"while just below", lasts(13, 10, while(2)), mute(), Stale},
		{"while at what is late", lasts(13, 10, while(3)), mute(), Stale},
		{"while just above", lasts(13, 10, while(4)), mute(), Soon},
		{"while of 0 at the lifetime", lasts(10, 10, while(0)), mute(), Stale},
		{"while of 1 at the lifetime", lasts(10, 10, while(1)), mute(), Soon},
		{"while that is not told", lasts(10, 10, while(-2)), mute(), Stale},
		{"the least while", lasts(10, 10, while(low)), mute(), Stale},
		{"the greatest while", lasts(high, 0, while(high)), mute(), Soon},
		{"while at the greatest age", lasts(high, 0, while(age)), mute(), Stale},
		{"while of what is fresh", lasts(9, 10, while(50)), mute(), Fresh},
		{"while and min-fresh of 0", lasts(13, 10, while(4)), mute(minFresh(0)), Soon},
		{"while and min-fresh of 1", lasts(13, 10, while(4)), mute(minFresh(1)), Stale},
		{"while and min-fresh that is not told", lasts(13, 10, while(4)), mute(minFresh(-2)), Soon},
		{"while and the least min-fresh", lasts(13, 10, while(4)), mute(minFresh(low)), Soon},
		{"while and the greatest min-fresh", lasts(13, 10, while(4)), mute(minFresh(high)), Stale},

		{"must of what is fresh", lasts(9, 10, must), mute(), Fresh},
		{"proxy of what is fresh", lasts(9, 10, proxy), mute(), Fresh},
		{"shared of what is fresh", lasts(9, 0, shared(10)), mute(), Fresh},
		{"must, proxy and shared of what is fresh", lasts(9, 0, must, proxy, shared(10)), mute(), Fresh},
		{"must and max-stale", lasts(10, 10, must), mute(maxStale(age)), Stale},
		{"proxy and max-stale", lasts(10, 10, proxy), mute(maxStale(age)), Stale},
		{"shared and max-stale", lasts(10, 99, shared(10)), mute(maxStale(age)), Stale},
		{"shared of 0 and max-stale", lasts(10, 99, shared(0)), mute(maxStale(age)), Stale},
		{"shared that is not told and max-stale", lasts(10, 10, shared(low)), mute(maxStale(age)), Fresh},
		{"must and while", lasts(10, 10, must, while(50)), mute(), Stale},
		{"proxy and while", lasts(10, 10, proxy, while(50)), mute(), Stale},
		{"shared and while", lasts(10, 99, shared(10), while(50)), mute(), Stale},
		{"all of them, while and max-stale", lasts(10, 99, must, proxy, shared(10), while(50)), mute(maxStale(age)), Stale},
	} {
		if got := State(c.m, c.req, -1); got != c.want {
			t.Errorf("%s: %d, not %d", c.name, got, c.want)
		}
		ask(t, c.m, c.req, -1)
	}
}

// What a response says to others, or a request to a response, is of no weight for the state.
func TestStateHangsOnNothingElse(t *testing.T) {
	for _, old := range []int{5, 10, 11} {
		for _, while := range []int{-1, 5} {
			m, req := lasts(old, 10), mute()
			m.Control.While = while
			want := State(m, req, -1)

			m.Code, m.Tag = 404, `"x"`
			m.Control.NoStore, m.Control.Private, m.Control.Public, m.Control.OnlyCached = true, true, true, true
			m.Control.IfError, m.Control.MinFresh, m.Control.MaxStale = age, age, age
			req.NoStore, req.Private, req.Public, req.Must, req.Proxy, req.OnlyCached = true, true, true, true, true, true
			req.Shared, req.While, req.IfError = 0, age, age
			if got := State(m, req, -1); got != want {
				t.Errorf("State(%+v, %+v, -1) is %d, not %d", m, req, got, want)
			}
		}
	}
}

// mixtures asks for the state with each mixture of the numbers and of what bars a stale answer.
func mixtures(t *testing.T, numbers []int) {
	trial.Lists(numbers, 6, func(l []int) {
		if len(l) < 6 {
			return
		}
		for bits := range 32 {
			m, req := lasts(l[0], l[1]), mute()
			m.Control.While, req.Age, req.MinFresh, req.MaxStale = l[2], l[3], l[4], l[5]
			req.NoCache, m.Control.NoCache = bits&1 != 0, bits&2 != 0
			m.Control.Must, m.Control.Proxy = bits&4 != 0, bits&8 != 0
			if bits&16 != 0 {
				m.Control.Shared = l[1]
			}
			if got, want := State(m, req, -1), plainState(m, req, -1); got != want {
				t.Fatalf("State(%+v, %+v, -1) is %d, not %d", m, req, got, want)
			}
		}
	})
}

func TestStateOfEachMixture(t *testing.T) {
	mixtures(t, []int{-1, 0, 1, 2, 3})
	mixtures(t, []int{low, 1, age - 1, age, age + 1, high})
}

// P9.5

func TestAgeGrowsByASecondEachSecond(t *testing.T) {
	for _, m := range []api.Meta{
		times(90, 5, 98, 100),
		times(-1, -1, -1, 0),
		times(500, -1, -1, 100),
		times(-1, 7, 200, 100),
		times(0, age-40, 98, 100),
	} {
		for now := m.Got; now < m.Got+60; now++ {
			if got, want := Age(m, now+1), min(Age(m, now)+1, age); got != want {
				t.Errorf("Age(%+v, %d) is %d, not %d", m, now+1, got, want)
			}
		}
	}
	m := times(-1, -1, -1, time-3)
	for i, want := range []int{0, 0, 1, 2, 3, 3, 3} { // there is no second above MaxTime
		if got := Age(m, time-4+i); got != want {
			t.Errorf("Age(%+v, %d) is %d, not %d", m, time-4+i, got, want)
		}
	}
}

// better tells whether a request may find what is stale better than what is fresh: it asks for what stays fresh, and for what is late.
func better(req api.Control) bool { return req.MinFresh > 0 && req.MaxStale >= 0 }

func TestTimeAloneMakesNothingFresh(t *testing.T) {
	trial.Lists([]int{-1, 0, 2, 5}, 6, func(l []int) {
		if len(l) < 6 {
			return
		}
		m, req := times(9, 1, 9, 10), mute()
		m.Control.Age, m.Control.While, m.Control.Shared = l[0], l[1], l[2]
		req.Age, req.MinFresh, req.MaxStale = l[3], l[4], l[5]
		late, worst := false, Fresh
		for now := 9; now < 24; now++ {
			if late && Age(m, now) < Lifetime(m) {
				t.Fatalf("%+v is fresh again at %d", m, now)
			}
			late = late || Age(m, now) >= Lifetime(m)
			if state := State(m, req, now); state < worst && !better(req) {
				t.Fatalf("State(%+v, %+v, %d) is %d behind %d", m, req, now, state, worst)
			} else {
				worst = max(worst, state)
			}
		}
		if !late {
			t.Fatalf("%+v is never late", m)
		}
	})
}

// Rules 1, 4 and 5: any ints, handed in by many at one time.

func TestAnyNumbers(t *testing.T) {
	edges := []int{low, low + 1, -1, 0, 1, 200, age, time, high - 1, high}
	n := uint64(1)
	next := func() int { // a short rule is as good as chance here, and tells the same each time
		n = n*6364136223846793005 + 1442695040888963407
		if k := n >> 60; int(k) < len(edges) {
			return edges[k]
		}
		return int(n>>20) % 500
	}
	for range 200000 {
		m := api.Meta{Code: next(), Date: next(), Expires: next(), Modified: next(), Age: next(), Asked: next(), Got: next()}
		req := mute()
		for _, c := range []*api.Control{&m.Control, &req} {
			c.Age, c.Shared, c.While, c.IfError, c.MinFresh, c.MaxStale = next(), next(), next(), next(), next(), next()
			bits := next()
			c.NoStore, c.NoCache, c.Private, c.Public = bits&1 != 0, bits&6 == 6, bits&8 != 0, bits&16 != 0
			c.Must, c.Proxy, c.OnlyCached = bits&96 == 96, bits&384 == 384, bits&512 != 0
		}
		ask(t, m, req, next())
	}
}

func TestManyAtOneTime(t *testing.T) {
	var all sync.WaitGroup
	for i := range 8 {
		all.Add(1)
		go func() {
			defer all.Done()
			for now := range 300 {
				m := times(90, i, 98, 100)
				m.Control.Age, m.Control.While = 15*i, 10
				if Age(m, now) != plainAge(m, now) || Lifetime(m) != 15*i || State(m, mute(), now) != plainState(m, mute(), now) {
					t.Errorf("%+v at %d is %d old and %d", m, now, Age(m, now), State(m, mute(), now))
				}
				if Heuristic(now+i) != plainHeuristic(now+i) {
					t.Errorf("Heuristic(%d) is %v", now+i, Heuristic(now+i))
				}
			}
		}()
	}
	all.Wait()
}
