package stripe

import (
	"fmt"
	"hash/fnv"
	"math"
	"math/rand"
	"slices"
	"strconv"
	"strings"
	"sync"
	"testing"
	"unsafe"

	"gatepost/api"
	"gatepost/trial"
)

const (
	low  = math.MinInt
	high = math.MaxInt
)

// ints are those at which something changes, and the ends of their range.
var ints = []int{low, low + 1, -1 << 32, -1 << 31, -4096, -64, -2, -1, 0, 1, 2, 7, 14, 15, 16, 17, 62, 63, 64, 65, 255, 256, 512, 4095, 4096, 1<<31 - 1, 1 << 31, 1<<32 - 1, 1 << 32, 1<<32 + 1, high - 1, high}

// counts are numbers of stripes.
var counts = []int{1, 2, 3, 7, 64}

// wrong are names that no entry has.
var wrong = []Name{{-1, "a"}, {16, "a"}, {low, "a"}, {high, "a"}, {1 << 32, "a"}, {-1 << 32, "a"}, {0, strings.Repeat("a", 513)}, {15, strings.Repeat("\x00", 5000)}, {-1, strings.Repeat("a", 513)}}

// both is a table beside the plain reading of it.
type both struct {
	t       *testing.T
	table   *Table
	stripes int
	values  map[Name]int
}

func table(t *testing.T, stripes int) *Table {
	t.Helper()
	made, e := New(stripes)
	if made == nil || e != 0 {
		t.Fatal(stripes, made, e)
	}
	return made
}

func pair(t *testing.T, stripes int) *both {
	t.Helper()
	return &both{t: t, table: table(t, stripes), stripes: stripes, values: map[Name]int{}}
}

// is holds what was told against what the plain reading tells.
func is[T comparable](b *both, got, want T, asked string, args ...any) {
	b.t.Helper()
	if got != want {
		b.t.Errorf("%s of %d stripes: %v, not %v", fmt.Sprintf(asked, args...), b.stripes, got, want)
	}
}

// plain is the plain reading of Hash.
func plain(n Name) uint32 {
	h := fnv.New32a()
	tenant := uint64(n.Tenant)
	h.Write([]byte{byte(tenant >> 24), byte(tenant >> 16), byte(tenant >> 8), byte(tenant)})
	h.Write([]byte(n.Key))
	return h.Sum32()
}

// stripe is the plain reading of a name's stripe.
func (b *both) stripe(n Name) int {
	return int(uint64(plain(n)) % uint64(b.stripes))
}

// many is the plain reading of Stripe.
func (b *both) many(k int) int {
	count := 0
	for n := range b.values {
		if b.stripe(n) == k {
			count++
		}
	}
	return count
}

// put is the plain reading of Put.
func (b *both) put(n Name, v int) (int, bool, api.Errno) {
	if n.Tenant < 0 || n.Tenant > 15 || len(n.Key) > 512 {
		return 0, false, 2
	}
	old, had := b.values[n]
	if !had && b.many(b.stripe(n)) >= 4096 {
		return 0, false, 14
	}
	b.values[n] = v
	return old, had, 0
}

func (b *both) Put(n Name, v int) api.Errno {
	b.t.Helper()
	want, wantHad, wantError := b.put(n, v)
	got, gotHad, e := b.table.Put(n, v)
	if got != want || gotHad != wantHad || e != wantError {
		b.t.Errorf("Put(%#v, %d) of %d stripes: %d %v %d, not %d %v %d", n, v, b.stripes, got, gotHad, e, want, wantHad, wantError)
	}
	return e
}

func (b *both) Get(n Name) {
	b.t.Helper()
	want, wantOK := b.values[n]
	got, ok := b.table.Get(n)
	is(b, got, want, "Get(%#v)", n)
	is(b, ok, wantOK, "Get(%#v)", n)
}

func (b *both) Del(n Name) {
	b.t.Helper()
	want, wantOK := b.values[n]
	delete(b.values, n)
	got, ok := b.table.Del(n)
	is(b, got, want, "Del(%#v)", n)
	is(b, ok, wantOK, "Del(%#v)", n)
}

func (b *both) Replace(n Name, old, v int) {
	b.t.Helper()
	has, there := b.values[n]
	want := there && has == old
	if want {
		b.values[n] = v
	}
	is(b, b.table.Replace(n, old, v), want, "Replace(%#v, %d, %d)", n, old, v)
}

func (b *both) Scan(tenant int, prefix string) {
	b.t.Helper()
	var want []Name
	for n := range b.values {
		if n.Tenant == tenant && len(n.Key) >= len(prefix) && n.Key[:len(prefix)] == prefix {
			want = append(want, n)
		}
	}
	slices.SortFunc(want, func(m, n Name) int { return slices.Compare([]byte(m.Key), []byte(n.Key)) })
	if got := b.table.Scan(tenant, prefix); !slices.Equal(got, want) {
		b.t.Errorf("Scan(%d, %.40q) of %d stripes: %#v, not %#v", tenant, prefix, b.stripes, got, want)
	}
}

// count asks for the numbers of entries: those of all stripes are the table's together.
func (b *both) count() {
	b.t.Helper()
	own := make([]int, b.stripes)
	for n := range b.values {
		own[b.stripe(n)]++
	}
	sum := 0
	for k, want := range own {
		got := b.table.Stripe(k)
		is(b, got, want, "Stripe(%d)", k)
		sum += got
	}
	is(b, b.table.Len(), len(b.values), "Len")
	is(b, sum, len(b.values), "the sum of Stripe")
	for _, k := range append(ints, b.stripes) {
		if k < 0 || k >= b.stripes {
			is(b, b.table.Stripe(k), 0, "Stripe(%d)", k)
		}
	}
}

// all asks for all that is kept, and for names and for beginnings of theirs that may be there or not.
func (b *both) all(names ...Name) {
	b.t.Helper()
	b.count()
	for n := range b.values {
		b.Get(n)
	}
	for _, n := range names {
		b.Get(n)
		b.Scan(n.Tenant, n.Key)
	}
	for tenant := -1; tenant <= 16; tenant++ {
		b.Scan(tenant, "")
	}
}

// sharing are names, so many of them, of one stripe.
func sharing(stripes, stripe, many int) []Name {
	b := &both{stripes: stripes}
	var names []Name
	for i := 0; len(names) < many; i++ {
		n := Name{i % 16, "k" + strconv.Itoa(i/16)}
		if b.stripe(n) == stripe {
			names = append(names, n)
		}
	}
	return names
}

// full is a table that has so many entries in one stripe, and none elsewhere.
func full(t *testing.T, stripes, stripe, many int) (*both, []Name) {
	t.Helper()
	b := pair(t, stripes)
	names := sharing(stripes, stripe, many)
	for i, n := range names {
		if old, had, e := b.table.Put(n, i-5); old != 0 || had || e != 0 {
			t.Fatal(n, old, had, e)
		}
		b.values[n] = i - 5
	}
	return b, names
}

// nothing are tables that no call made.
func nothing(t *testing.T) []*Table {
	var zero Table
	failed, e := New(0)
	if failed != nil || e != 2 {
		t.Error(failed, e)
	}
	return []*Table{nil, {}, new(Table), &zero, failed}
}

// P17.1: a name's number.

func TestHash(t *testing.T) {
	for _, c := range []struct {
		tenant int
		key    string
		want   uint32
	}{
		{0, "", 1268118805},
		{0, "a", 1896965532},
		{1, "", 1251341186},
		{1, "a", 1292824153},
		{255, "a", 2013105083},
		{256, "a", 4096413879},
		{65536, "", 212812234},
		{1 << 24, "", 4218009092},
		{15, "/x", 1343041607},
		{1 << 31, "a", 493716508},
		{1<<32 - 1, "a", 1270539376},
		{1 << 32, "a", 1896965532},
		{-1, "a", 1270539376},
		{-1 << 31, "a", 493716508},
		{low, "a", 1896965532},
		{high, "a", 1270539376},
		{0, "\x00", 303091727},
		{0, "\xff", 3876724574},
		{0x01020304, "ab", 3069109698},
		{0x04030201, "ab", 2501315354},
		{0, "ba", 3949604828},
		{3, strings.Repeat("a", 512), 114077276},
		{3, strings.Repeat("a", 513), 4046866951},
		{3, strings.Repeat("\x00", 100000), 1813669468},
	} {
		for range 2 {
			if got := Hash(Name{c.tenant, c.key}); got != c.want {
				t.Errorf("%d %.40q: %d, not %d", c.tenant, c.key, got, c.want)
			}
		}
	}
}

// TestExample holds the hash of the example's bytes against what they come to step by step.
func TestExample(t *testing.T) {
	want := uint64(2166136261)
	for _, b := range []uint64{0, 0, 0, 0, 97} {
		want = (want ^ b) * 16777619 % (1 << 32)
	}
	if got := Hash(Name{0, "a"}); uint64(got) != want || got != 1896965532 {
		t.Error(got, want)
	}
}

func TestHashOfTexts(t *testing.T) {
	for _, tenant := range ints {
		trial.Changed("a\xc3/", func(key string) {
			if got := Hash(Name{tenant, key}); got != plain(Name{tenant, key}) {
				t.Errorf("%d %q: %d", tenant, key, got)
			}
		})
	}
	for n := range 600 {
		for seed := range 3 {
			name := Name{n * 77777, trial.Text(n, seed)}
			if got := Hash(name); got != plain(name) {
				t.Errorf("%#v: %d", name, got)
			}
		}
	}
}

func TestHashOfAny(t *testing.T) {
	r := rand.New(rand.NewSource(1))
	for range 100000 {
		key := make([]byte, r.Intn(20))
		r.Read(key)
		name := Name{int(r.Uint64()), string(key)}
		if got := Hash(name); got != plain(name) {
			t.Fatalf("%#v: %d", name, got)
		}
	}
}

// P17.2: tables, and entries that are laid.

func TestNew(t *testing.T) {
	for _, n := range append(ints, 3, 32, 100) {
		made, e := New(n)
		if n < 1 || n > 64 {
			if made != nil || e != 2 {
				t.Error(n, made, e)
			}
			continue
		}
		b := &both{t: t, table: made, stripes: n, values: map[Name]int{}}
		if made == nil || e != 0 {
			t.Fatal(n, e)
		}
		b.all(Name{0, ""}, Name{15, "a"})
	}
	for n := -100; n <= 200; n++ {
		if made, e := New(n); (made != nil) != (1 <= n && n <= 64) || (e == 0) != (made != nil) {
			t.Error(n, e)
		}
	}
}

// TestTablesAreTheirOwn puts into one table what another one hasn't.
func TestTablesAreTheirOwn(t *testing.T) {
	one, other := pair(t, 3), pair(t, 3)
	n := Name{2, "a"}
	one.Put(n, 5)
	other.all(n)
	other.Put(n, 7)
	other.Put(Name{2, "ab"}, 8)
	one.all(n)
	one.Del(n)
	one.all(n)
	other.all(n)
}

// TestNothing asks tables that are none: nothing is there, and nothing is done.
func TestNothing(t *testing.T) {
	for i, none := range nothing(t) {
		for range 2 {
			for _, n := range append([]Name{{0, ""}, {0, "a"}, {15, strings.Repeat("a", 512)}}, wrong...) {
				if old, had, e := none.Put(n, 5); old != 0 || had || e != 1 {
					t.Error(i, n, old, had, e)
				}
				if v, ok := none.Get(n); v != 0 || ok {
					t.Error(i, n, v, ok)
				}
				if v, ok := none.Del(n); v != 0 || ok {
					t.Error(i, n, v, ok)
				}
				if none.Replace(n, 0, 5) || none.Replace(n, 5, 5) || none.Replace(n, 0, 0) {
					t.Error(i, n)
				}
				if names := none.Scan(n.Tenant, n.Key); len(names) != 0 {
					t.Error(i, n, names)
				}
			}
			for _, k := range ints {
				if none.Stripe(k) != 0 || len(none.Scan(k, "")) != 0 {
					t.Error(i, k)
				}
			}
			if none.Len() != 0 {
				t.Error(i, none.Len())
			}
		}
	}
}

// TestPutTold puts names that are not there, that are there, and that were taken away.
func TestPutTold(t *testing.T) {
	for _, stripes := range counts {
		made := table(t, stripes)
		put := func(n Name, v, wantOld int, wantHad bool) {
			t.Helper()
			if old, had, e := made.Put(n, v); old != wantOld || had != wantHad || e != 0 {
				t.Errorf("%#v %d: %d %v %d, not %d %v", n, v, old, had, e, wantOld, wantHad)
			}
		}
		a, b := Name{1, "a"}, Name{2, "a"}
		put(a, 5, 0, false)
		put(a, 0, 5, true)
		put(b, 9, 0, false)
		put(a, low, 0, true)
		put(a, high, low, true)
		put(a, high, high, true)
		put(b, -1, 9, true)
		if v, ok := made.Del(a); v != high || !ok || made.Len() != 1 {
			t.Error(v, ok, made.Len())
		}
		put(a, 3, 0, false)
		put(b, 4, -1, true)
		if made.Len() != 2 {
			t.Error(made.Len())
		}
	}
}

// TestPutNames puts names at the limits, within and beyond them.
func TestPutNames(t *testing.T) {
	for _, stripes := range counts {
		b := pair(t, stripes)
		for _, tenant := range ints {
			for _, size := range []int{0, 1, 2, 510, 511, 512, 513, 514, 1024, 5000} {
				for _, v := range []int{3, 0, 4} {
					n := Name{tenant, trial.Text(size, 1)}
					want := api.Errno(2)
					if tenant >= 0 && tenant <= 15 && size <= 512 {
						want = 0
					}
					is(b, b.Put(n, v), want, "Put(%#v, %d)", n, v)
					b.Get(n)
				}
			}
			b.count()
		}
		b.all(wrong...)
	}
}

// TestPutFailed puts what is wrong, between entries whose names are nearly so.
func TestPutFailed(t *testing.T) {
	for _, stripes := range counts {
		b := pair(t, stripes)
		for tenant := range 16 {
			b.Put(Name{tenant, "a"}, tenant)
			b.Put(Name{tenant, strings.Repeat("a", 512)}, -tenant)
		}
		for _, n := range wrong {
			for _, v := range ints {
				is(b, b.Put(n, v), 2, "Put(%#v, %d)", n, v)
			}
			b.Get(n)
			b.Del(n)
			b.Replace(n, 0, 1)
			b.count()
		}
		b.all(wrong...)
		is(b, b.table.Len(), 32, "Len")
	}
}

// TestValues puts each value behind each, in their whole range.
func TestValues(t *testing.T) {
	for _, stripes := range counts {
		b := pair(t, stripes)
		n := Name{3, "k"}
		for _, v := range ints {
			for _, w := range ints {
				b.Put(n, v)
				b.Get(n)
				b.Put(n, w)
				b.Get(n)
				b.Replace(n, v, 77)
				b.Get(n)
			}
		}
		b.all(n)
	}
}

// TestFull tells when a stripe has no room: for a name more, while the others have it.
func TestFull(t *testing.T) {
	for _, c := range [][2]int{{1, 0}, {2, 1}, {3, 2}, {3, 0}, {7, 3}, {64, 0}, {64, 63}, {64, 17}} {
		b, names := full(t, c[0], c[1], 4095)
		more := sharing(c[0], c[1], 4099)[4095:]
		b.count()
		is(b, b.table.Stripe(c[1]), 4095, "Stripe(%d)", c[1])
		is(b, b.Put(more[0], 1), 0, "Put(%#v)", more[0])
		for range 2 {
			for _, n := range more[1:] {
				is(b, b.Put(n, 0), 14, "Put(%#v)", n)
				b.Get(n)
				b.Del(n)
				b.Replace(n, 0, 1)
			}
			b.count()
		}
		for _, n := range wrong {
			is(b, b.Put(n, 1), 2, "Put(%#v)", n)
		}
		is(b, b.Put(names[0], 77), 0, "Put(%#v)", names[0])
		is(b, b.Put(more[0], 78), 0, "Put(%#v)", more[0])
		b.all(names[0], more[0], more[1])

		b.Del(names[4000])
		is(b, b.table.Stripe(c[1]), 4095, "Stripe(%d)", c[1])
		is(b, b.Put(more[1], 5), 0, "Put(%#v)", more[1])
		is(b, b.Put(names[4000], 5), 14, "Put(%#v)", names[4000])
		is(b, b.Put(more[2], 5), 14, "Put(%#v)", more[2])
		b.all(names[4000], more[1], more[2])

		for k := range c[0] {
			if k != c[1] {
				is(b, b.Put(sharing(c[0], k, 1)[0], k), 0, "Put in %d", k)
			}
		}
		b.all(names[4000], more[2])
		is(b, b.table.Len(), 4096+c[0]-1, "Len")
	}
}

// TestAllFull fills each stripe, and empties it.
func TestAllFull(t *testing.T) {
	for _, stripes := range []int{1, 2, 3} {
		b := pair(t, stripes)
		left := make([]int, stripes)
		for i, full := 0, 0; full < stripes; i++ {
			n := Name{i % 16, strconv.Itoa(i)}
			k := b.stripe(n)
			want := api.Errno(0)
			if left[k] == 4096 {
				want = 14
			}
			old, had, e := b.table.Put(n, i)
			if old != 0 || had || e != want {
				t.Fatal(n, old, had, e, want)
			}
			if e == 0 {
				b.values[n] = i
				left[k]++
				if left[k] == 4096 {
					full++
				}
			}
		}
		b.all(Name{0, "x"})
		is(b, b.table.Len(), 4096*stripes, "Len")
		for _, n := range b.names() {
			b.Del(n)
			b.Get(n)
		}
		b.all(Name{0, "0"})
		is(b, b.table.Len(), 0, "Len")
	}
}

// names are those of the entries, in an order that hangs on nothing but them.
func (b *both) names() []Name {
	var names []Name
	for n := range b.values {
		names = append(names, n)
	}
	slices.SortFunc(names, func(m, n Name) int { return int(plain(m)) - int(plain(n)) })
	return names
}

// P17.3: entries that are told, taken away and replaced.

func TestGetDelReplaceTold(t *testing.T) {
	for _, stripes := range counts {
		made := table(t, stripes)
		get := func(n Name, want int, wantOK bool) {
			t.Helper()
			for range 2 {
				if v, ok := made.Get(n); v != want || ok != wantOK {
					t.Errorf("%#v: %d %v, not %d %v", n, v, ok, want, wantOK)
				}
			}
		}
		n, m := Name{4, "a"}, Name{4, "b"}
		get(n, 0, false)
		if v, ok := made.Del(n); v != 0 || ok || made.Replace(n, 0, 5) || made.Replace(n, 0, 0) {
			t.Error(v, ok)
		}
		get(n, 0, false)
		made.Put(n, 0)
		made.Put(m, 6)
		get(n, 0, true)
		if made.Replace(n, 1, 5) || made.Replace(n, -1, 5) || !made.Replace(n, 0, 0) {
			t.Error("Replace")
		}
		get(n, 0, true)
		if !made.Replace(n, 0, 5) || made.Replace(n, 0, 7) {
			t.Error("Replace")
		}
		get(n, 5, true)
		if !made.Replace(n, 5, 5) {
			t.Error("Replace")
		}
		get(n, 5, true)
		get(m, 6, true)
		if v, ok := made.Del(n); v != 5 || !ok || made.Len() != 1 {
			t.Error(v, ok)
		}
		get(n, 0, false)
		if v, ok := made.Del(n); v != 0 || ok || made.Replace(n, 5, 6) || made.Replace(n, 0, 6) {
			t.Error(v, ok)
		}
		get(n, 0, false)
		get(m, 6, true)
		if made.Len() != 1 {
			t.Error(made.Len())
		}
	}
}

// near are names that are nearly another: of each two tenants, each beginning, each byte more or changed.
func near() []Name {
	var names []Name
	for _, tenant := range []int{0, 1, 15} {
		for _, key := range []string{"", "a", "b", "A", "ab", "ba", "a\x00", "\x00", "\x00\x00", "\xff", "\xff\xff", "a\xff", "a/", "a/b", "/", "//", " ", "a ", "\xc3\xa4", "\xc3", trial.Text(511, 1), trial.Text(512, 1), trial.Text(512, 2), strings.Repeat("\xff", 512)} {
			names = append(names, Name{tenant, key})
		}
	}
	return names
}

// TestNear puts names that are nearly another, asks for all, and takes each away.
func TestNear(t *testing.T) {
	for _, stripes := range counts {
		b := pair(t, stripes)
		names := near()
		for i, n := range names {
			b.Get(n)
			b.Put(n, i)
		}
		b.all(append(names, wrong...)...)
		for i, n := range names {
			b.Replace(n, i+1, 1)
			b.Replace(n, i, -i)
			b.Get(n)
		}
		b.all(names...)
		for i, n := range names {
			if i%3 > 0 {
				b.Del(n)
				b.Get(n)
			}
		}
		b.all(names...)
		for i, n := range names {
			b.Put(n, i+100)
		}
		b.all(names...)
	}
}

// TestDelInEachOrder takes few entries away in each order; some lie in one slot.
func TestDelInEachOrder(t *testing.T) {
	names := append(sharing(1, 0, 2), Name{0, ""}, Name{5, "a"})
	trial.Orders(names, func(order []Name) {
		for _, stripes := range []int{1, 3} {
			b := pair(t, stripes)
			for i, n := range names {
				b.Put(n, i)
			}
			for _, n := range order {
				b.Del(n)
				b.all(names...)
			}
		}
	})
}

// TestMeeting has names whose hashes are alike, in all or in much.
func TestMeeting(t *testing.T) {
	seen := map[uint32]Name{}
	var names []Name
	for i := 0; len(names) < 20; i++ {
		n := Name{i % 16, "m" + strconv.Itoa(i)}
		if m, ok := seen[plain(n)]; ok {
			names = append(names, m, n)
		}
		seen[plain(n)] = n
	}
	for _, stripes := range counts {
		b := pair(t, stripes)
		for i, n := range names {
			b.Put(n, i)
			b.all(names...)
		}
		for i, n := range names {
			b.Replace(n, i, i+50)
			b.Put(n, i+60)
		}
		b.all(names...)
		for i := range names {
			b.Del(names[(i*7)%len(names)])
			b.all(names...)
		}
	}
}

// P17.4: names that begin alike, and how many there are.

func TestScanTold(t *testing.T) {
	for _, stripes := range counts {
		made := table(t, stripes)
		keys := []string{"b", "", "a/x", "a", "\xff", "\x00", "a\xff", "ab", "a\x00", "a/", "B", "\xff\xff", "\xc3\xa4"}
		for i, key := range keys {
			made.Put(Name{3, key}, i)
			made.Put(Name{5, key + "z"}, i)
		}
		for prefix, want := range map[string][]string{
			"":           {"", "\x00", "B", "a", "a\x00", "a/", "a/x", "ab", "a\xff", "b", "\xc3\xa4", "\xff", "\xff\xff"},
			"a":          {"a", "a\x00", "a/", "a/x", "ab", "a\xff"},
			"a/":         {"a/", "a/x"},
			"a/x":        {"a/x"},
			"a/xy":       {},
			"a\x00":      {"a\x00"},
			"a\xff":      {"a\xff"},
			"\x00":       {"\x00"},
			"\x00\x00":   {},
			"\xff":       {"\xff", "\xff\xff"},
			"\xff\xff":   {"\xff\xff"},
			"\xc3":       {"\xc3\xa4"},
			"A":          {},
			"B":          {"B"},
			"c":          {},
			"/":          {},
			"aa":         {},
			"*":          {},
			"\xff\xffab": {},
		} {
			var names []Name
			for _, key := range want {
				names = append(names, Name{3, key})
			}
			if got := made.Scan(3, prefix); !slices.Equal(got, names) {
				t.Errorf("%q of %d stripes: %#v, not %#v", prefix, stripes, got, names)
			}
		}
		if got := made.Scan(5, "b"); !slices.Equal(got, []Name{{5, "bz"}}) {
			t.Errorf("%#v", got)
		}
		for _, tenant := range ints {
			if got := made.Scan(tenant, ""); tenant != 3 && tenant != 5 && len(got) != 0 {
				t.Errorf("%d: %#v", tenant, got)
			}
		}
		if got := made.Scan(3, strings.Repeat("a", 5000)); len(got) != 0 {
			t.Errorf("%#v", got)
		}
	}
}

// TestScanEach asks for each beginning of each key, and for each with a byte more.
func TestScanEach(t *testing.T) {
	for _, stripes := range counts {
		b := pair(t, stripes)
		for i, n := range near() {
			b.Put(n, i)
		}
		for _, n := range near() {
			for i := 0; i <= len(n.Key) && i < 6; i++ {
				for _, tenant := range []int{-1, 0, 1, 2, 15, 16, low, high, 1 << 32} {
					b.Scan(tenant, n.Key[:i])
					b.Scan(tenant, n.Key[:i]+"\x00")
					b.Scan(tenant, n.Key[:i]+"\xff")
				}
			}
			b.Scan(n.Tenant, n.Key)
			b.Scan(n.Tenant, n.Key+n.Key)
		}
	}
}

// TestScanChanged asks again behind each change.
func TestScanChanged(t *testing.T) {
	for _, stripes := range counts {
		b := pair(t, stripes)
		one, two, three := Name{7, "p/1"}, Name{7, "p/2"}, Name{7, "p/3"}
		see := func(want ...Name) {
			t.Helper()
			if got := b.table.Scan(7, "p/"); !slices.Equal(got, want) {
				t.Errorf("%#v, not %#v", got, want)
			}
			b.count()
		}
		see()
		b.Put(two, 1)
		see(two)
		b.Put(three, 1)
		b.Put(one, 1)
		see(one, two, three)
		b.Put(two, 5)
		b.Replace(three, 1, 4)
		see(one, two, three)
		b.Del(two)
		see(one, three)
		b.Put(Name{7, "p/" + strings.Repeat("x", 511)}, 1)
		b.Put(Name{16, "p/2"}, 1)
		see(one, three)
		b.Put(two, 1)
		see(one, two, three)
		b.Del(one)
		b.Del(two)
		b.Del(three)
		see()
	}
}

// TestScanIsNewMemory writes over what was told, its spare room too, and changes the table behind it.
func TestScanIsNewMemory(t *testing.T) {
	for _, stripes := range counts {
		b := pair(t, stripes)
		var want []Name
		for i := range 50 {
			n := Name{1, strconv.Itoa(100 + i)}
			b.Put(n, i)
			want = append(want, n)
		}
		told := b.table.Scan(1, "1")
		again := b.table.Scan(1, "1")
		room := told[:cap(told)]
		for i := range room {
			room[i] = Name{2, "written"}
		}
		b.all(want...)
		b.Del(want[3])
		b.Put(Name{1, "1000"}, 5)
		if !slices.Equal(again, want) {
			t.Errorf("%#v", again)
		}
		b.all(want...)
	}
}

// TestKeysAreCopied asks where a key lies that was a piece of a longer text.
func TestKeysAreCopied(t *testing.T) {
	made := table(t, 1)
	text := trial.Text(100, 1)
	made.Put(Name{1, text[10:20]}, 1)
	made.Put(Name{1, text[10:20]}, 2)
	told := made.Scan(1, "")
	if len(told) != 1 || told[0].Key != text[10:20] || unsafe.StringData(told[0].Key) == unsafe.StringData(text[10:20]) {
		t.Errorf("%#v", told)
	}
}

// TestCounts tells Len and Stripe behind each call, also those that fail.
func TestCounts(t *testing.T) {
	for _, stripes := range counts {
		b := pair(t, stripes)
		names := near()
		for i, n := range names {
			for _, do := range []func(){
				func() { b.Replace(n, 0, 1) },
				func() { b.Del(n) },
				func() { b.Put(n, i) },
				func() { b.Put(n, i+1) },
				func() { b.Replace(n, i+1, 3) },
				func() { b.Replace(n, i+1, 4) },
				func() { b.Put(wrong[i%len(wrong)], 1) },
				func() { b.Del(wrong[i%len(wrong)]) },
				func() { b.Get(n) },
				func() { b.Scan(n.Tenant, n.Key) },
			} {
				do()
				b.count()
			}
		}
		for _, n := range names {
			b.Del(n)
			b.count()
			b.Del(n)
			b.count()
		}
		is(b, b.table.Len(), 0, "Len")
	}
}

// P17.5: a table's entries are those of its stripes, and each has its last value.

// TestMixed makes long runs of any calls, with names so few that they meet often.
func TestMixed(t *testing.T) {
	for _, stripes := range counts {
		for seed := range 6 {
			r := rand.New(rand.NewSource(int64(seed)))
			b := pair(t, stripes)
			names := near()[:10+seed*10]
			for range 4000 {
				b.any(r, names[r.Intn(len(names))], r.Intn(4)-1)
			}
			b.all(names...)
		}
	}
}

// any makes one of the calls.
func (b *both) any(r *rand.Rand, n Name, v int) {
	b.t.Helper()
	switch r.Intn(6) {
	case 0, 1:
		b.Put(n, v)
	case 2:
		b.Del(n)
	case 3:
		b.Replace(n, r.Intn(4)-1, v)
	case 4:
		b.Get(n)
	default:
		b.Scan(n.Tenant, n.Key[:r.Intn(len(n.Key)+1)])
	}
	b.Get(n)
	b.count()
}

// TestAny asks for any ints and any bytes, also names that are wrong.
func TestAny(t *testing.T) {
	for _, stripes := range counts {
		r := rand.New(rand.NewSource(int64(stripes)))
		b := pair(t, stripes)
		var names []Name
		for range 3000 {
			key := make([]byte, r.Intn(3))
			r.Read(key)
			if r.Intn(50) == 0 {
				key = []byte(trial.Text(505+r.Intn(20), r.Intn(2)))
			}
			n := Name{r.Intn(20) - 2, string(key)}
			if r.Intn(9) == 0 {
				n.Tenant = ints[r.Intn(len(ints))]
			}
			names = append(names, n)
			b.any(r, names[r.Intn(len(names))], ints[r.Intn(len(ints))])
			b.any(r, n, int(r.Uint64()))
		}
		b.all(names...)
	}
}

// TestMixedNearlyFull makes mixed calls in a stripe that is about to be full, again and again.
func TestMixedNearlyFull(t *testing.T) {
	for _, stripes := range []int{1, 7} {
		b, names := full(t, stripes, 0, 4093)
		names = append(names[:20:20], sharing(stripes, 0, 4103)[4093:]...)
		r := rand.New(rand.NewSource(7))
		failed := 0
		for range 400 {
			n := names[r.Intn(len(names))]
			switch r.Intn(6) {
			case 0:
				b.Del(n)
			case 1:
				b.Replace(n, b.values[n], r.Intn(9))
			default:
				if b.Put(n, r.Intn(9)) == 14 {
					failed++
				}
			}
			b.Get(n)
			b.count()
		}
		b.all(names...)
		if failed < 10 {
			t.Error(failed)
		}
	}
}

// TestManyAtOneTime has tables of their own used by many at one time: they share nothing.
func TestManyAtOneTime(t *testing.T) {
	var all sync.WaitGroup
	for i := range 8 {
		all.Go(func() {
			b := &both{t: t, stripes: counts[i%5], values: map[Name]int{}}
			b.table, _ = New(b.stripes)
			r := rand.New(rand.NewSource(int64(i)))
			names := near()
			for range 1000 {
				b.any(r, names[r.Intn(len(names))], r.Intn(4))
			}
			b.all(names...)
		})
	}
	all.Wait()
}
