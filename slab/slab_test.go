package slab

import (
	"bytes"
	"fmt"
	"math"
	"math/rand"
	"slices"
	"strings"
	"sync"
	"testing"

	"gatepost/api"
	"gatepost/trial"
)

const (
	low  = math.MinInt
	high = math.MaxInt
)

// told are the bytes of each class's blocks, as the chapter tells them.
var told = [4]int{64, 256, 1024, 4096}

// ints are those at which something changes, and the ends of their range.
var ints = []int{low, low + 1, low + 64, -1 << 32, -4097, -4096, -64, -2, -1, 0, 1, 2, 3, 4, 5, 63, 64, 65, 255, 256, 257, 1023, 1024, 1025, 4095, 4096, 4097, 1 << 20, 1 << 31, 1 << 32, high - 4096, high - 64, high - 1, high}

// used is a block in use of the plain reading.
type used struct {
	held  int
	bytes string
}

// place is a block of a class.
type place struct{ class, index int }

// plain is a plain reading of the chapter: what is in use stands under its handle; of each block is known how often it was taken.
type plain struct {
	blocks [4]int
	inUse  map[Handle]used
	taken  map[place]int
}

func (p *plain) alloc(n int) (Handle, api.Errno) {
	if n < 0 || n > 4096 {
		return Handle{}, 2
	}
	class := 0
	for n > told[class] {
		class++
	}
	for index := range p.blocks[class] {
		at := place{class, index}
		h := Handle{class, index, p.taken[at]}
		if _, is := p.inUse[h]; !is {
			h.Gen++
			p.taken[at] = h.Gen
			p.inUse[h] = used{1, strings.Repeat("\x00", told[class])}
			return h, 0
		}
	}
	return Handle{}, 14
}

func (p *plain) hold(h Handle) api.Errno {
	u, is := p.inUse[h]
	switch {
	case !is:
		return 15
	case u.held == 1048576:
		return 3
	}
	u.held++
	p.inUse[h] = u
	return 0
}

func (p *plain) drop(h Handle) api.Errno {
	u, is := p.inUse[h]
	if !is {
		return 15
	}
	u.held--
	p.inUse[h] = u
	if u.held == 0 {
		delete(p.inUse, h)
	}
	return 0
}

// beyond tells whether bytes at a place are not all of a text; it adds nothing that leaves an int's range.
func beyond(at, n int, text string) bool {
	return at < 0 || n < 0 || at > len(text) || n > len(text) || at+n > len(text)
}

func (p *plain) write(h Handle, at int, s string) api.Errno {
	u, is := p.inUse[h]
	switch {
	case !is:
		return 15
	case beyond(at, len(s), u.bytes):
		return 2
	}
	u.bytes = u.bytes[:at] + s + u.bytes[at+len(s):]
	p.inUse[h] = u
	return 0
}

func (p *plain) read(h Handle, at, n int) (string, api.Errno) {
	u, is := p.inUse[h]
	switch {
	case !is:
		return "", 15
	case beyond(at, n, u.bytes):
		return "", 2
	}
	return u.bytes[at : at+n], 0
}

func (p *plain) live(class int) int {
	n := 0
	for h := range p.inUse {
		if h.Class == class {
			n++
		}
	}
	return n
}

// both is an arena beside the plain reading: what one is asked, the other is.
type both struct {
	t       *testing.T
	a       *Arena
	p       *plain
	handles []Handle // all that were ever told
}

func arena(t *testing.T, blocks [4]int) *Arena {
	t.Helper()
	a, e := New(blocks)
	if a == nil || e != 0 {
		t.Fatalf("New(%v): %v %d", blocks, a, e)
	}
	return a
}

func pair(t *testing.T, blocks [4]int) *both {
	t.Helper()
	return &both{t: t, a: arena(t, blocks), p: &plain{blocks: blocks, inUse: map[Handle]used{}, taken: map[place]int{}}}
}

// is holds what the arena told against what the plain reading did.
func is[T comparable](b *both, got, want T, asked string, args ...any) {
	b.t.Helper()
	if got != want {
		b.t.Errorf("%s: %v, not %v", fmt.Sprintf(asked, args...), got, want)
	}
}

func (b *both) alloc(n int) Handle {
	b.t.Helper()
	got, gotError := b.a.Alloc(n)
	want, wantError := b.p.alloc(n)
	is(b, got, want, "Alloc(%d)", n)
	is(b, gotError, wantError, "Alloc(%d)", n)
	if wantError == 0 {
		b.handles = append(b.handles, want)
	}
	return want
}

func (b *both) hold(h Handle) {
	b.t.Helper()
	is(b, b.a.Hold(h), b.p.hold(h), "Hold(%v)", h)
}

func (b *both) drop(h Handle) {
	b.t.Helper()
	is(b, b.a.Drop(h), b.p.drop(h), "Drop(%v)", h)
}

func (b *both) write(h Handle, at int, s string) {
	b.t.Helper()
	is(b, b.a.Write(h, at, []byte(s)), b.p.write(h, at, s), "Write(%v, %d, %d bytes)", h, at, len(s))
}

func (b *both) read(h Handle, at, n int) {
	b.t.Helper()
	got, gotError := b.a.Read(h, at, n)
	want, wantError := b.p.read(h, at, n)
	if string(got) != want {
		b.t.Errorf("Read(%v, %d, %d): %d bytes %.40q, not %d bytes %.40q", h, at, n, len(got), got, len(want), want)
	}
	is(b, gotError, wantError, "Read(%v, %d, %d)", h, at, n)
}

func (b *both) count(h Handle) {
	b.t.Helper()
	is(b, b.a.Held(h), b.p.inUse[h].held, "Held(%v)", h)
}

func (b *both) live() {
	b.t.Helper()
	for _, class := range []int{low, -1, 0, 1, 2, 3, 4, high} {
		is(b, b.a.Live(class), b.p.live(class), "Live(%d)", class)
	}
}

// all asks for all that is kept: of each handle that was ever told, and of each class.
func (b *both) all() {
	b.t.Helper()
	b.live()
	for _, h := range b.handles {
		b.count(h)
		b.read(h, 0, Sizes(h.Class))
	}
}

// each calls all that take a handle, with this one; none of them lets a block go, or fills one that is right.
func (b *both) each(h Handle) {
	b.t.Helper()
	b.count(h)
	b.read(h, 0, 1)
	b.read(h, -1, 1)
	b.write(h, 0, "")
	b.write(h, -1, "x")
	b.hold(h)
	b.drop(h)
	if _, right := b.p.inUse[h]; !right {
		b.write(h, 0, "x")
	}
}

// P15.1: the sizes of blocks, and how many there may be.

func TestSizes(t *testing.T) {
	for class, want := range map[int]int{0: 64, 1: 256, 2: 1024, 3: 4096, -1: 0, 4: 0, low: 0, high: 0} {
		if got := Sizes(class); got != want {
			t.Error(class, got)
		}
	}
	for _, class := range ints {
		if got := Sizes(class); got != 0 && (class < 0 || class > 3) {
			t.Error(class, got)
		}
	}
}

// TestNew tells each number in each place, with some others beside it.
func TestNew(t *testing.T) {
	for _, c := range []struct {
		n int
		e api.Errno
	}{{-1, 2}, {0, 0}, {1, 0}, {2, 0}, {4095, 0}, {4096, 0}, {4097, 3}, {8192, 3}, {low, 2}, {low + 1, 2}, {high, 3}, {high - 1, 3}, {1 << 32, 3}, {-1 << 32, 2}} {
		for at := range 4 {
			for _, other := range []int{0, 1, 4096} {
				blocks := [4]int{other, other, other, other}
				blocks[at] = c.n
				if a, e := New(blocks); e != c.e || (a == nil) != (e != 0) {
					t.Errorf("%v: %d", blocks, e)
				}
			}
		}
	}
}

// TestNewOfEachMixture tells a number below 0 as ErrArg, whatever stands beside it, ahead of it or behind it.
func TestNewOfEachMixture(t *testing.T) {
	some := []int{low, -1, 0, 1, 4096, 4097, high}
	trial.Lists(some, 4, func(l []int) {
		if len(l) < 4 {
			return
		}
		want := api.Errno(0)
		if slices.Max(l) > 4096 {
			want = 3
		}
		if slices.Min(l) < 0 {
			want = 2
		}
		if a, e := New([4]int(l)); e != want || (a == nil) != (e != 0) {
			t.Errorf("%v: %d, not %d", l, e, want)
		}
	})
}

// TestNewHasSoManyBlocks takes blocks until there are none, of one class beside the others.
func TestNewHasSoManyBlocks(t *testing.T) {
	for class := range 4 {
		for _, n := range []int{0, 1, 2, 5, 4095, 4096} {
			blocks := [4]int{3, 3, 3, 3}
			blocks[class] = n
			a := arena(t, blocks)
			for i := range n {
				if h, e := a.Alloc(told[class]); h != (Handle{class, i, 1}) || e != 0 {
					t.Fatal(class, n, i, h, e)
				}
			}
			for range 2 {
				if h, e := a.Alloc(told[class]); h != (Handle{}) || e != 14 || a.Live(class) != n {
					t.Error(class, n, h, e, a.Live(class))
				}
			}
		}
	}
}

// TestNewOfNoBlocks tells an arena without blocks from none at all.
func TestNewOfNoBlocks(t *testing.T) {
	b := pair(t, [4]int{})
	for _, n := range ints {
		b.alloc(n)
	}
	if h, e := b.a.Alloc(0); h != (Handle{}) || e != 14 {
		t.Error(h, e)
	}
	for _, class := range ints {
		b.each(Handle{class, 0, 0})
		b.each(Handle{class, 0, 1})
	}
	b.all()
}

// P15.2: blocks that are taken.

func TestExample(t *testing.T) {
	a := arena(t, [4]int{2, 2, 2, 2})
	first, e := a.Alloc(65)
	if first != (Handle{1, 0, 1}) || e != 0 {
		t.Error(first, e)
	}
	if e := a.Drop(first); e != 0 {
		t.Error(e)
	}
	if h, e := a.Alloc(65); h != (Handle{1, 0, 2}) || e != 0 {
		t.Error(h, e)
	}
	if e := a.Hold(first); e != 15 {
		t.Error(e)
	}
}

// TestAllocByBytes takes a block for each number of bytes from arenas that have blocks of all classes.
func TestAllocByBytes(t *testing.T) {
	for n := -70; n < 4200; n++ {
		pair(t, [4]int{1, 1, 1, 1}).alloc(n)
	}
	for n, class := range map[int]int{0: 0, 1: 0, 63: 0, 64: 0, 65: 1, 255: 1, 256: 1, 257: 2, 1023: 2, 1024: 2, 1025: 3, 4095: 3, 4096: 3} {
		a := arena(t, [4]int{2, 2, 2, 2})
		for i := range 2 {
			if h, e := a.Alloc(n); h != (Handle{class, i, 1}) || e != 0 {
				t.Error(n, h, e)
			}
		}
		if h, e := a.Alloc(n); h != (Handle{}) || e != 14 {
			t.Error(n, h, e)
		}
	}
}

// TestAllocWrong asks for what no block has: ErrArg, whether blocks are left or not.
func TestAllocWrong(t *testing.T) {
	for _, blocks := range [][4]int{{}, {1, 1, 1, 1}, {0, 0, 0, 1}, {1}, {4096, 4096, 4096, 4096}} {
		b := pair(t, blocks)
		for range 2 {
			for _, n := range []int{-1, -64, low, low + 1, 4097, 1 << 32, high - 1, high} {
				if h, e := b.a.Alloc(n); h != (Handle{}) || e != 2 {
					t.Error(blocks, n, h, e)
				}
				b.alloc(n)
			}
			b.all()
			for _, size := range told {
				b.alloc(size)
			}
		}
	}
}

// TestAllocFull asks a class without free blocks, while all others have some.
func TestAllocFull(t *testing.T) {
	for class, size := range told {
		for n := range 3 {
			blocks := [4]int{9, 9, 9, 9}
			blocks[class] = n
			b := pair(t, blocks)
			for range n {
				b.alloc(size)
			}
			for _, bytes := range []int{size, size - 1, size - 63, size/4 + 1} {
				if h, e := b.a.Alloc(bytes); h != (Handle{}) || e != 14 {
					t.Error(class, n, bytes, h, e)
				}
			}
			b.all()
			for _, other := range told {
				b.alloc(other)
			}
			b.all()
		}
	}
}

// TestAllocLeast lets blocks go in each order, and takes as many again: the least are taken first.
func TestAllocLeast(t *testing.T) {
	for class, size := range told {
		trial.Orders([]int{0, 1, 2, 3, 4}, func(order []int) {
			b := pair(t, [4]int{5, 5, 5, 5})
			for range 5 {
				b.alloc(size)
			}
			let := order[:1+order[0]%4]
			for _, i := range let {
				b.drop(Handle{class, i, 1})
			}
			slices.Sort(let)
			for _, i := range let {
				if h := b.alloc(size); h != (Handle{class, i, 2}) {
					t.Error(let, h)
				}
			}
			b.alloc(size)
			b.all()
		})
	}
}

// TestAllocGenerations takes blocks many times: each counts for itself.
func TestAllocGenerations(t *testing.T) {
	for class, size := range told {
		a := arena(t, [4]int{3, 3, 3, 3})
		kept, _ := a.Alloc(size)
		for gen := 1; gen <= 3000; gen++ {
			h, e := a.Alloc(size)
			if h != (Handle{class, 1, gen}) || e != 0 {
				t.Fatal(h, e)
			}
			if gen%1000 == 0 { // the third block is taken while the second one is in use
				if h, e := a.Alloc(size); h != (Handle{class, 2, gen / 1000}) || e != 0 || a.Drop(h) != 0 {
					t.Error(h, e)
				}
			}
			if e := a.Drop(h); e != 0 {
				t.Error(e)
			}
		}
		if a.Drop(kept) != 0 {
			t.Error(kept)
		}
		if h, e := a.Alloc(size); h != (Handle{class, 0, 2}) || e != 0 {
			t.Error(h, e)
		}
	}
}

// TestAllocClears takes blocks that were written all over: they are of bytes 0, and held once, however often they were held.
func TestAllocClears(t *testing.T) {
	for class, size := range told {
		a := arena(t, [4]int{2, 2, 2, 2})
		for gen := 1; gen < 5; gen++ {
			h, _ := a.Alloc(size)
			if b, e := a.Read(h, 0, size); !bytes.Equal(b, make([]byte, size)) || e != 0 {
				t.Error(class, gen, b, e)
			}
			if a.Held(h) != 1 || a.Held(Handle{class, 0, gen}) != 1 {
				t.Error(h, a.Held(h))
			}
			if e := a.Write(h, 0, []byte(trial.Text(size, gen))); e != 0 {
				t.Error(e)
			}
			for range gen {
				a.Hold(h)
			}
			for range gen + 1 {
				a.Drop(h)
			}
		}
	}
}

// P15.3: blocks that are held, let go, written and read.

// TestNone asks an arena that is nil, and ones that no call gave: nothing is there, and nothing is done.
func TestNone(t *testing.T) {
	var zero Arena
	for _, a := range []*Arena{nil, {}, new(Arena), &zero} {
		for range 2 {
			for _, n := range ints {
				for _, h := range []Handle{{}, {0, 0, 1}, {3, n, 1}, {n, 0, 0}, {1, 0, n}, {n, n, n}} {
					b, e := a.Read(h, n, 0)
					if a.Hold(h) != 1 || a.Drop(h) != 1 || a.Write(h, n, []byte("x")) != 1 || a.Write(h, 0, nil) != 1 || len(b) != 0 || e != 1 || a.Held(h) != 0 {
						t.Error(h, n)
					}
				}
				if h, e := a.Alloc(n); h != (Handle{}) || e != 1 || a.Live(n) != 0 {
					t.Error(n, h, e)
				}
			}
		}
	}
}

// mixed makes an arena of blocks that were never taken, are in use, were let go, and were taken anew.
func mixed(t *testing.T) *both {
	b := pair(t, [4]int{5, 0, 1, 4})
	for seed := range 4 {
		b.write(b.alloc(9), 0, trial.Text(64, seed))
		b.write(b.alloc(4096), 0, trial.Text(4096, seed))
	}
	b.write(b.alloc(1000), 5, trial.Text(900, 9))
	for gen := 1; gen < 4; gen++ { // the second one is of its generation 4 then
		b.drop(Handle{0, 1, gen})
		b.drop(Handle{3, 1, gen})
		b.write(b.alloc(0), 3, trial.Text(60, gen+20))
		b.write(b.alloc(2000), 3, trial.Text(2000, gen+20))
	}
	b.hold(Handle{3, 1, 4})
	b.drop(Handle{0, 2, 1}) // the third one isn't in use any more; the fifth one never was
	b.drop(Handle{3, 3, 1})
	b.all()
	return b
}

// TestHandles asks for each mixture of class, place and generation: only those in use are right.
func TestHandles(t *testing.T) {
	b := mixed(t)
	ends := []int{low, low + 1, -1 << 32, 1 << 32, 1<<32 + 1, high - 1, high}
	classes := append([]int{-3, -2, -1, 0, 1, 2, 3, 4, 5, 6}, ends...)
	places := append([]int{-64, -2, -1, 0, 1, 2, 3, 4, 5, 6, 63, 64, 4095, 4096}, ends...)
	gens := append([]int{-4, -2, -1, 0, 1, 2, 3, 4, 5, 6, 8, 257}, ends...)
	right := 0
	for _, class := range classes {
		for _, index := range places {
			for _, gen := range gens {
				h := Handle{class, index, gen}
				if b.a.Held(h) > 0 {
					right++
				}
				b.each(h)
			}
		}
		b.all()
	}
	if right != 7 {
		t.Error(right)
	}
}

// TestStale tells what each call says of a handle that was right once.
func TestStale(t *testing.T) {
	for class, size := range told {
		a := arena(t, [4]int{2, 2, 2, 2})
		var old []Handle
		for gen := 1; gen < 300; gen++ {
			h, _ := a.Alloc(size)
			a.Write(h, 0, []byte(trial.Text(size, gen)))
			for _, h := range append(old, Handle{class, 0, 0}, Handle{class, 0, gen + 1}, Handle{class, 1, 0}, Handle{class, 1, gen}, Handle{class, 0, -gen}, Handle{class ^ 1, 0, gen}) {
				b, e := a.Read(h, 0, 1)
				if a.Hold(h) != 15 || a.Drop(h) != 15 || a.Write(h, 0, []byte("x")) != 15 || len(b) != 0 || e != 15 || a.Held(h) != 0 {
					t.Fatal(class, gen, h)
				}
			}
			if b, e := a.Read(h, 0, size); string(b) != trial.Text(size, gen) || e != 0 || a.Held(h) != 1 || a.Live(class) != 1 {
				t.Error(class, gen, e)
			}
			a.Drop(h)
			old = append(old, h)
		}
	}
}

// TestHold holds a block as often as it may be, and once more; then it is let go as often.
func TestHold(t *testing.T) {
	a := arena(t, [4]int{2, 2, 2, 2})
	for _, size := range []int{64, 4096} {
		other, _ := a.Alloc(size)
		h, _ := a.Alloc(size)
		a.Write(h, 0, []byte("kept"))
		for n := 1; n < 1048576; n++ {
			if e := a.Hold(h); e != 0 {
				t.Fatal(n, e)
			}
		}
		if a.Held(h) != 1048576 {
			t.Error(a.Held(h))
		}
		for range 3 {
			if e := a.Hold(h); e != 3 || a.Held(h) != 1048576 {
				t.Error(e, a.Held(h))
			}
		}
		if a.Drop(h) != 0 || a.Held(h) != 1048575 || a.Hold(h) != 0 || a.Held(h) != 1048576 || a.Hold(h) != 3 {
			t.Error(a.Held(h))
		}
		for n := 1048576; n > 1; n-- {
			if e := a.Drop(h); e != 0 {
				t.Fatal(n, e)
			}
		}
		b, e := a.Read(h, 0, 4)
		if string(b) != "kept" || e != 0 || a.Held(h) != 1 || a.Held(other) != 1 || a.Live(other.Class) != 2 {
			t.Error(b, e, a.Held(h), a.Held(other))
		}
		if a.Drop(h) != 0 || a.Held(h) != 0 || a.Live(other.Class) != 1 || a.Drop(h) != 15 || a.Hold(h) != 15 {
			t.Error(a.Held(h))
		}
	}
}

func TestDrop(t *testing.T) {
	for class, size := range told {
		for holds := range 6 {
			b := pair(t, [4]int{1, 2, 3, 4})
			h := b.alloc(size)
			other := b.alloc(size)
			b.write(h, 0, trial.Text(size, 3))
			for range holds {
				b.hold(h)
				b.all()
			}
			for n := holds + 1; n > 0; n-- {
				is(b, b.a.Held(h), n, "Held(%v)", h)
				b.drop(h)
				b.all()
			}
			for range 2 {
				if b.a.Drop(h) != 15 || b.a.Hold(h) != 15 || b.a.Held(h) != 0 || b.a.Live(class) != b.p.live(class) {
					t.Error(class, holds)
				}
				b.all()
			}
			b.count(other)
			b.alloc(size)
			b.drop(h)
			b.all()
		}
	}
}

// edges are places of a block of so many bytes, and ones that it has not.
func edges(size int) []int {
	return append([]int{size/2 - 1, size / 2, size - 2, size - 1, size, size + 1, size + 2, 2 * size, high - size, high - size + 1, low + size}, ints...)
}

// TestWrite writes at each edge so many bytes that they fit, and ones that don't.
func TestWrite(t *testing.T) {
	for class, size := range told {
		b := pair(t, [4]int{2, 2, 2, 2})
		b.write(b.alloc(size), 0, trial.Text(size, 1))
		h := b.alloc(size)
		b.write(h, 0, trial.Text(size, 2))
		for seed, at := range edges(size) {
			for _, n := range []int{0, 1, 2, 7, size / 2, size - at - 1, size - at, size - at + 1, size - 1, size, size + 1, size + 64, 2 * size, 5000} {
				if n >= 0 && n <= 5000 {
					b.write(h, at, trial.Text(n, seed+n))
					b.all()
				}
			}
		}
		for _, c := range []struct {
			at, n int
			e     api.Errno
		}{{-1, 0, 2}, {-1, 1, 2}, {-1, size, 2}, {0, 0, 0}, {0, size, 0}, {0, size + 1, 2}, {1, size - 1, 0}, {1, size, 2}, {size - 1, 0, 0}, {size - 1, 1, 0}, {size - 1, 2, 2}, {size, 0, 0}, {size, 1, 2}, {size + 1, 0, 2}, {high, 0, 2}, {high, 1, 2}, {high, size, 2}, {low, 0, 2}, {low, 1, 2}, {low, size, 2}} {
			if e := b.a.Write(h, c.at, []byte(trial.Text(c.n, 5))); e != c.e {
				t.Errorf("class %d: Write of %d bytes at %d: %d", class, c.n, c.at, e)
			}
		}
	}
}

// TestWriteNothing writes no bytes: nil and none are alike.
func TestWriteNothing(t *testing.T) {
	for _, size := range told {
		a := arena(t, [4]int{1, 1, 1, 1})
		h, _ := a.Alloc(size)
		a.Write(h, 0, []byte(trial.Text(size, 1)))
		for _, nothing := range [][]byte{nil, {}, make([]byte, 0, 99)} {
			for _, at := range edges(size) {
				want := api.Errno(2)
				if 0 <= at && at <= size {
					want = 0
				}
				if e := a.Write(h, at, nothing); e != want {
					t.Error(size, at, e)
				}
			}
			if b, _ := a.Read(h, 0, size); string(b) != trial.Text(size, 1) {
				t.Errorf("%q", b)
			}
		}
	}
}

// TestRead reads at each edge so many bytes as are there, and as are not.
func TestRead(t *testing.T) {
	for class, size := range told {
		b := pair(t, [4]int{2, 2, 2, 2})
		b.write(b.alloc(size), 0, trial.Text(size, 1))
		h := b.alloc(size)
		b.write(h, 0, trial.Text(size, 2))
		for _, at := range edges(size) {
			for _, n := range edges(size) {
				b.read(h, at, n)
			}
			for _, n := range []int{size - at - 1, size - at, size - at + 1, -at, -at - 1} { // at and n together wrap round for some
				b.read(h, at, n)
			}
		}
		b.all()
		for _, c := range []struct {
			at, n int
			e     api.Errno
		}{{-1, 0, 2}, {-1, 1, 2}, {0, -1, 2}, {1, -1, 2}, {size, -1, 2}, {size + 1, -1, 2}, {0, 0, 0}, {0, size, 0}, {0, size + 1, 2}, {1, size - 1, 0}, {1, size, 2}, {size - 1, 1, 0}, {size - 1, 2, 2}, {size, 0, 0}, {size, 1, 2}, {size + 1, 0, 2}, {high, 0, 2}, {0, high, 2}, {1, high, 2}, {high, high, 2}, {high, 1, 2}, {low, 0, 2}, {low, low, 2}, {0, low, 2}, {low, high, 2}, {high, low, 2}} {
			got, e := b.a.Read(h, c.at, c.n)
			if e != c.e || e != 0 && len(got) != 0 || e == 0 && string(got) != trial.Text(size, 2)[c.at:c.at+c.n] {
				t.Errorf("class %d: Read of %d bytes at %d: %q %d", class, c.n, c.at, got, e)
			}
		}
	}
}

// TestWhichErrorIsFirst asks by wrong handles for wrong places: the handle's error is told.
func TestWhichErrorIsFirst(t *testing.T) {
	b := mixed(t)
	var none *Arena
	for _, h := range []Handle{{}, {0, 0, 2}, {0, 1, 3}, {0, 2, 1}, {0, 4, 0}, {0, 4, 1}, {0, 5, 1}, {1, 0, 1}, {-1, 0, 1}, {4, 0, 1}, {3, -1, 1}, {high, high, high}, {low, low, low}} {
		for _, at := range ints {
			for _, n := range []int{-1, 0, 1, 65, 5000, low, high} {
				if got, e := b.a.Read(h, at, n); len(got) != 0 || e != 15 {
					t.Error(h, at, n, e)
				}
				if got, e := none.Read(h, at, n); len(got) != 0 || e != 1 {
					t.Error(h, at, n, e)
				}
			}
			for _, n := range []int{0, 1, 65, 5000} {
				if e := b.a.Write(h, at, make([]byte, n)); e != 15 {
					t.Error(h, at, n, e)
				}
				if e := none.Write(h, at, make([]byte, n)); e != 1 {
					t.Error(h, at, n, e)
				}
			}
		}
	}
	b.all()
}

// P15.4: what is held, and what is in use.

func TestHeldAndLive(t *testing.T) {
	a := arena(t, [4]int{2, 1, 0, 3})
	is := func(h Handle, held int, live ...int) {
		t.Helper()
		if a.Held(h) != held {
			t.Errorf("Held(%v): %d", h, a.Held(h))
		}
		for class, n := range live {
			if a.Live(class) != n {
				t.Errorf("Live(%d): %d", class, a.Live(class))
			}
		}
		for _, class := range []int{low, -2, -1, 4, 5, high} {
			if a.Live(class) != 0 {
				t.Errorf("Live(%d): %d", class, a.Live(class))
			}
		}
	}
	one, two, three := Handle{0, 0, 1}, Handle{0, 1, 1}, Handle{3, 0, 1}
	is(one, 0, 0, 0, 0, 0)
	a.Alloc(1)
	is(one, 1, 1, 0, 0, 0)
	a.Alloc(1)
	is(two, 1, 2, 0, 0, 0)
	a.Alloc(1) // full
	is(two, 1, 2, 0, 0, 0)
	a.Alloc(500) // no blocks
	a.Alloc(-1)
	a.Alloc(4097)
	is(two, 1, 2, 0, 0, 0)
	a.Alloc(4000)
	is(three, 1, 2, 0, 0, 1)
	a.Hold(one)
	is(one, 2, 2, 0, 0, 1)
	is(two, 1, 2, 0, 0, 1)
	is(Handle{0, 0, 2}, 0, 2, 0, 0, 1)
	a.Hold(Handle{0, 0, 2})
	a.Drop(Handle{0, 0, 0})
	is(one, 2, 2, 0, 0, 1)
	a.Drop(one)
	is(one, 1, 2, 0, 0, 1)
	a.Drop(one)
	is(one, 0, 1, 0, 0, 1)
	a.Drop(one)
	a.Hold(one)
	is(one, 0, 1, 0, 0, 1)
	a.Write(three, 0, []byte("x"))
	a.Read(three, 0, 9)
	is(three, 1, 1, 0, 0, 1)
	a.Alloc(64)
	is(one, 0, 2, 0, 0, 1)
	is(Handle{0, 0, 2}, 1, 2, 0, 0, 1)
	a.Drop(two)
	a.Drop(three)
	is(two, 0, 1, 0, 0, 0)
	a.Drop(Handle{0, 0, 2})
	is(Handle{0, 0, 2}, 0, 0, 0, 0, 0)
}

// P15.5: what is written is read.

// TestWrittenIsRead fills the blocks of all classes, and changes each a piece at a time: no other one changes.
func TestWrittenIsRead(t *testing.T) {
	b := pair(t, [4]int{3, 3, 3, 3})
	for seed := range 3 {
		for _, size := range told {
			b.write(b.alloc(size), 0, trial.Text(size, seed))
		}
	}
	b.all()
	for seed, h := range slices.Clone(b.handles) {
		size := told[h.Class]
		for _, at := range []int{0, 1, size / 2, size - 9, size - 1} {
			b.write(h, at, trial.Text(min(9, size-at), seed+at))
			b.all()
		}
		b.hold(h)
		b.drop(h)
		b.all()
	}
	for _, h := range slices.Clone(b.handles) {
		b.drop(h)
		b.alloc(told[h.Class])
		b.all()
	}
}

// TestEachByte writes a byte at each place of a block, one by one.
func TestEachByte(t *testing.T) {
	for class, size := range told {
		a := arena(t, [4]int{3, 3, 3, 3})
		a.Alloc(size)
		h, _ := a.Alloc(size)
		a.Alloc(size)
		written, nothing := make([]byte, size), make([]byte, size)
		for at := range size {
			written[at] = byte(at*5 + 1)
			if e := a.Write(h, at, written[at:at+1]); e != 0 {
				t.Error(at, e)
			}
			if b, e := a.Read(h, at, 1); !bytes.Equal(b, written[at:at+1]) || e != 0 {
				t.Error(at, b, e)
			}
		}
		for i, want := range [][]byte{nothing, written, nothing} {
			if b, e := a.Read(Handle{class, i, 1}, 0, size); !bytes.Equal(b, want) || e != 0 {
				t.Error(class, i, e)
			}
		}
	}
}

// TestNeverRightAgain keeps each handle that was told, while few blocks are taken again and again.
func TestNeverRightAgain(t *testing.T) {
	a := arena(t, [4]int{1, 1, 1, 1})
	seen := map[Handle]int{}
	for range 2000 {
		for _, size := range told {
			h, e := a.Alloc(size)
			seen[h]++
			if e != 0 || seen[h] != 1 || a.Drop(h) != 0 {
				t.Fatal(h, e)
			}
		}
	}
	for _, size := range told {
		a.Alloc(size)
	}
	for h := range seen {
		if a.Hold(h) != 15 || a.Held(h) != 0 {
			t.Error(h)
		}
	}
}

// step does one call that chance chooses: mostly of a block that was told, sometimes of any.
func (b *both) step(chance *rand.Rand) {
	h := Handle{chance.Intn(6) - 1, chance.Intn(6) - 1, chance.Intn(9) - 1}
	if n := len(b.handles); n > 0 && chance.Intn(8) > 0 {
		h = b.handles[n-1-chance.Intn(min(n, 12))]
	}
	size := Sizes(h.Class) + 1
	at, n := chance.Intn(size), chance.Intn(size)
	if chance.Intn(3) > 0 {
		n = chance.Intn(size - at)
	}
	if chance.Intn(20) == 0 {
		at = ints[chance.Intn(len(ints))]
	}
	switch chance.Intn(9) {
	case 0, 1:
		b.alloc(told[chance.Intn(4)] - chance.Intn(48))
	case 2:
		b.hold(h)
	case 3, 4:
		b.drop(h)
	case 5, 6:
		b.write(h, at, trial.Text(n, chance.Intn(250)))
	case 7:
		b.read(h, at, n)
		b.read(h, at, ints[chance.Intn(len(ints))])
	case 8:
		b.alloc(ints[chance.Intn(len(ints))])
		b.count(h)
		b.live()
	}
}

// TestLongRuns mixes calls, and asks for all that is kept again and again.
func TestLongRuns(t *testing.T) {
	chance := rand.New(rand.NewSource(15))
	for run := range 60 {
		b := pair(t, [4]int{chance.Intn(6), chance.Intn(5), chance.Intn(4), chance.Intn(3)})
		for i := range 3000 {
			b.step(chance)
			if i%40 == run%40 {
				if len(b.handles) > 60 {
					b.handles = b.handles[len(b.handles)-60:]
				}
				b.all()
			}
			if t.Failed() {
				t.Fatal(run, i)
			}
		}
		for h, u := range b.p.inUse {
			for range u.held {
				if e := b.a.Drop(h); e != 0 {
					t.Error(h, e)
				}
			}
		}
		for class := range 4 {
			if b.a.Live(class) != 0 {
				t.Error(class, b.a.Live(class))
			}
		}
	}
}

// Wrong inputs.

// TestAnyInts hands any ints to all calls: none changes a thing, but for blocks that are taken.
func TestAnyInts(t *testing.T) {
	chance := rand.New(rand.NewSource(51))
	b := mixed(t)
	wild := func() int {
		switch chance.Intn(3) {
		case 0:
			return ints[chance.Intn(len(ints))]
		case 1:
			return chance.Intn(8) - 2
		}
		return int(chance.Uint64())
	}
	for i := range 60000 {
		h := Handle{wild(), wild(), wild()}
		b.read(h, wild(), wild())
		b.write(h, wild(), trial.Text(chance.Intn(3), i))
		b.each(h)
		b.alloc(wild())
		is(b, b.a.Live(h.Index), b.p.live(h.Index), "Live(%d)", h.Index)
		is(b, Sizes(h.Gen) != 0, h.Gen >= 0 && h.Gen < 4, "Sizes(%d)", h.Gen)
		if i%500 == 0 {
			b.all()
		}
		if t.Failed() {
			t.Fatal(i)
		}
	}
	b.all()
}

// TestLongBytes writes more than any block has.
func TestLongBytes(t *testing.T) {
	long := make([]byte, 1<<21)
	for _, size := range told {
		a := arena(t, [4]int{1, 1, 1, 1})
		h, _ := a.Alloc(size)
		a.Write(h, 0, []byte(trial.Text(size, 1)))
		for _, n := range []int{size + 1, 4097, 1 << 20, 1 << 21} {
			for _, at := range append(ints, size) {
				if e := a.Write(h, at, long[:n]); e != 2 {
					t.Error(size, n, at, e)
				}
			}
		}
		if b, _ := a.Read(h, 0, size); string(b) != trial.Text(size, 1) {
			t.Errorf("%q", b)
		}
	}
}

// What is handed in, and out.

// TestReadIsNew keeps what was read, while its block is written, let go and taken anew, and writes over it, its spare room too.
func TestReadIsNew(t *testing.T) {
	for class, size := range told {
		a := arena(t, [4]int{2, 2, 2, 2})
		h, _ := a.Alloc(size)
		behind, _ := a.Alloc(size)
		a.Write(behind, 0, []byte(trial.Text(size, 8)))
		a.Write(h, 0, []byte(trial.Text(size, 1)))
		for _, part := range [][2]int{{0, size}, {0, 1}, {1, size - 1}, {size - 1, 1}, {size / 2, 5}, {0, 0}, {3, 0}, {size, 0}} {
			at, n := part[0], part[1]
			want := trial.Text(size, 1)[at : at+n]
			first, _ := a.Read(h, at, n)
			second, _ := a.Read(h, at, n)
			a.Write(h, 0, []byte(trial.Text(size, 2)))
			if string(first) != want {
				t.Error("written:", class, part)
			}
			a.Drop(h)
			if string(first) != want {
				t.Error("let go:", class, part)
			}
			h, _ = a.Alloc(size)
			a.Write(h, 0, []byte(trial.Text(size, 1)))
			if string(first) != want || string(second) != want {
				t.Error("taken anew:", class, part)
			}
			over := first[:cap(first)]
			for i := range over {
				over[i] = 0
			}
			own, _ := a.Read(h, 0, size)
			next, _ := a.Read(behind, 0, size)
			if string(second) != want || string(own) != trial.Text(size, 1) || string(next) != trial.Text(size, 8) {
				t.Error("written over:", class, part)
			}
		}
	}
}

// TestWriteKeepsNothing writes over what was handed in: the block stays; and neither it nor its spare room was changed.
func TestWriteKeepsNothing(t *testing.T) {
	for class, size := range told {
		for _, n := range []int{0, 1, 9, size - 1, size, size + 1} {
			a := arena(t, [4]int{2, 2, 2, 2})
			h, _ := a.Alloc(size)
			room := []byte(trial.Text(n+size, 4))
			e := a.Write(h, 0, room[:n])
			if (e != 0) != (n > size) || string(room) != trial.Text(n+size, 4) {
				t.Error(class, n, e)
			}
			for i := range room {
				room[i] = 255
			}
			want := make([]byte, size)
			if e == 0 {
				copy(want, trial.Text(n+size, 4)[:n])
			}
			if b, e := a.Read(h, 0, size); !bytes.Equal(b, want) || e != 0 {
				t.Error(class, n, e)
			}
			a.Drop(h)
			a.Alloc(size)
			if string(room) != strings.Repeat("\xff", n+size) {
				t.Error(class, n)
			}
		}
	}
}

// TestTwoArenas drives two arenas in turn: what one does, the other does not tell.
func TestTwoArenas(t *testing.T) {
	one, other := mixed(t), pair(t, [4]int{3, 3, 2, 2})
	chance := rand.New(rand.NewSource(3))
	for i := range 3000 {
		other.step(chance)
		if i%100 == 0 {
			one.all()
			one.step(chance)
			other.all()
		}
	}
}

func TestManyAtOneTime(t *testing.T) {
	var all sync.WaitGroup
	for seed := range 8 {
		all.Go(func() {
			chance := rand.New(rand.NewSource(int64(seed)))
			b := &both{t: t, p: &plain{blocks: [4]int{3, 2, 2, 1}, inUse: map[Handle]used{}, taken: map[place]int{}}}
			b.a, _ = New(b.p.blocks)
			for range 2000 {
				b.step(chance)
			}
			b.all()
		})
	}
	all.Wait()
}
