package chain

import (
	"fmt"
	"math"
	"math/rand"
	"slices"
	"strings"
	"sync"
	"testing"

	"gatepost/api"
	"gatepost/slab"
	"gatepost/trial"
)

const (
	low  = math.MinInt
	high = math.MaxInt
	mega = 1 << 20 // MaxBody
)

// told are the bytes of each class's blocks, as slab's chapter tells them.
var told = [4]int{64, 256, 1024, 4096}

// ints are those at which something changes, and the ends of their range.
var ints = []int{low, low + 1, low + 64, -1 << 32, -4096, -64, -2, -1, 0, 1, 2, 63, 64, 65, 256, 257, 1024, 4096, 4097, mega, mega + 1, 1 << 31, 1 << 32, high - 4096, high - 64, high - 1, high}

// some are numbers of bytes at which another block is taken.
var some = []int{0, 1, 63, 64, 65, 256, 257, 1024, 1025, 4096, 4097, 5000}

// link is a chain beside the plain reading of it.
type link struct {
	c             *Chain
	bytes         string
	blocks        []slab.Handle
	shared, freed bool
}

// both is an arena beside another one of as many blocks: chains take theirs of the one, the plain reading
// of the other, so that a block of the one is that of the same handle of the other.
type both struct {
	t      *testing.T
	a, own *slab.Arena
	links  []*link
	seen   []slab.Handle // all that the plain reading ever took
}

func arena(t *testing.T, blocks [4]int) *slab.Arena {
	t.Helper()
	a, e := slab.New(blocks)
	if e != 0 {
		t.Fatal(blocks, e)
	}
	return a
}

func pair(t *testing.T, blocks [4]int) *both {
	t.Helper()
	return &both{t: t, a: arena(t, blocks), own: arena(t, blocks)}
}

// is holds what was told against what the plain reading tells.
func is[T comparable](b *both, got, want T, asked string, args ...any) {
	b.t.Helper()
	if got != want {
		b.t.Errorf("%s: %v, not %v", fmt.Sprintf(asked, args...), got, want)
	}
}

func (b *both) make() *link {
	l := &link{c: New(b.a)}
	b.links = append(b.links, l)
	return l
}

// least is the least class that has so many bytes, the greatest if none has.
func least(n int) int {
	class := 0
	for class < 3 && told[class] < n {
		class++
	}
	return class
}

// room is how many bytes the last block has behind those of the chain.
func (l *link) room() int {
	n := -len(l.bytes)
	for _, h := range l.blocks {
		n += told[h.Class]
	}
	return n
}

// take is the plain reading of what is taken for so many bytes.
func (b *both) take(n int) ([]slab.Handle, bool) {
	var taken []slab.Handle
	for n > 0 {
		class := least(n)
		h, e := b.own.Alloc(told[class])
		for e == 14 && class > 0 {
			class--
			h, e = b.own.Alloc(told[class])
		}
		if e != 0 {
			b.let(taken)
			return nil, false
		}
		taken = append(taken, h)
		b.seen = append(b.seen, h)
		n -= told[class]
	}
	return taken, true
}

// let is the plain reading of blocks that are dropped.
func (b *both) let(blocks []slab.Handle) {
	b.t.Helper()
	for _, h := range blocks {
		if e := b.own.Drop(h); e != 0 {
			b.t.Errorf("%v: %d", h, e)
		}
	}
}

// put is the plain reading of Append.
func (b *both) put(l *link, s string) api.Errno {
	switch {
	case l.freed:
		return 16
	case l.shared:
		return 2
	case len(l.bytes)+len(s) > 1048576:
		return 3
	}
	taken, ok := b.take(len(s) - l.room())
	if !ok {
		return 14
	}
	l.bytes += s
	l.blocks = append(l.blocks, taken...)
	left := l.bytes
	for _, h := range l.blocks {
		n := min(told[h.Class], len(left))
		b.own.Write(h, 0, []byte(left[:n]))
		left = left[n:]
	}
	return 0
}

func (b *both) append(l *link, s string) api.Errno {
	b.t.Helper()
	before := len(l.bytes)
	e := l.c.Append([]byte(s))
	is(b, e, b.put(l, s), "Append of %d bytes behind %d", len(s), before)
	b.count(l)
	return e
}

func (b *both) read(l *link, at, n int) {
	b.t.Helper()
	var want string
	var wantError api.Errno
	switch {
	case l.freed:
		wantError = 16
	case at < 0 || n < 0 || at > len(l.bytes) || n > len(l.bytes) || at+n > len(l.bytes):
		wantError = 2
	default:
		want = l.bytes[at : at+n]
	}
	got, e := l.c.Read(at, n)
	if string(got) != want || e != wantError {
		b.t.Errorf("Read(%d, %d): %d bytes %.40q %d, not %d bytes %.40q %d", at, n, len(got), got, e, len(want), want, wantError)
	}
}

func (b *both) count(l *link) {
	b.t.Helper()
	is(b, l.c.Len(), len(l.bytes), "Len")
	is(b, l.c.Charge(), len(l.bytes)+l.room(), "Charge of %d bytes", len(l.bytes))
}

func (b *both) share(l *link) *link {
	b.t.Helper()
	c, e := l.c.Share()
	if l.freed {
		if c != nil || e != 16 {
			b.t.Errorf("Share: %v %d", c, e)
		}
		return nil
	}
	if c == nil || e != 0 {
		b.t.Fatalf("Share: %v %d", c, e)
	}
	for _, h := range l.blocks {
		b.own.Hold(h)
	}
	l.shared = true
	other := &link{c: c, bytes: l.bytes, blocks: slices.Clone(l.blocks), shared: true}
	b.links = append(b.links, other)
	return other
}

func (b *both) free(l *link) {
	b.t.Helper()
	want := api.Errno(16)
	if !l.freed {
		want = 0
		b.let(l.blocks)
		*l = link{c: l.c, shared: l.shared, freed: true}
	}
	is(b, l.c.Free(), want, "Free")
}

func (b *both) alike(l, m *link) {
	b.t.Helper()
	want := !l.freed && !m.freed && slices.Equal(l.blocks, m.blocks) && len(l.bytes) == len(m.bytes)
	is(b, Alike(l.c, m.c), want, "Alike of %d and %d bytes", len(l.bytes), len(m.bytes))
}

// other takes a block beside the chains, and writes all over it.
func (b *both) other(class, seed int) slab.Handle {
	b.t.Helper()
	h, e := b.own.Alloc(told[class])
	got, gotError := b.a.Alloc(told[class])
	is(b, got, h, "Alloc(%d)", told[class])
	is(b, gotError, e, "Alloc(%d)", told[class])
	s := []byte(trial.Text(told[class], seed))
	b.own.Write(h, 0, s)
	b.a.Write(h, 0, s)
	b.seen = append(b.seen, h)
	return h
}

// all asks for all that is kept: of each chain, of each block that was ever taken, and of each class.
func (b *both) all() {
	b.t.Helper()
	for _, l := range b.links {
		b.count(l)
		b.read(l, 0, len(l.bytes))
	}
	for _, h := range b.seen {
		is(b, b.a.Held(h), b.own.Held(h), "Held(%v)", h)
		got, _ := b.a.Read(h, 0, told[h.Class])
		want, _ := b.own.Read(h, 0, told[h.Class])
		if string(got) != string(want) {
			b.t.Errorf("%v: %q, not %q", h, got, want)
		}
	}
	for class := range 4 {
		is(b, b.a.Live(class), b.own.Live(class), "Live(%d)", class)
	}
}

// end frees all: no block is in use then.
func (b *both) end() {
	b.t.Helper()
	for _, l := range b.links {
		if !l.freed {
			b.free(l)
		}
	}
	b.all()
	b.live([4]int{})
}

// live holds the numbers of blocks that are in use against told ones.
func (b *both) live(want [4]int) {
	b.t.Helper()
	is(b, live(b.a), want, "Live")
}

func live(a *slab.Arena) [4]int {
	return [4]int{a.Live(0), a.Live(1), a.Live(2), a.Live(3)}
}

// chain makes one of an arena, of bytes that have room for them.
func chain(t *testing.T, a *slab.Arena, s string) *Chain {
	t.Helper()
	c := New(a)
	if e := c.Append([]byte(s)); e != 0 {
		t.Fatal(len(s), e)
	}
	return c
}

// nothing are chains that no call made, or whose arena none made.
func nothing() []*Chain {
	var zero Chain
	var bare slab.Arena
	return []*Chain{nil, {}, new(Chain), &zero, New(nil), New(&slab.Arena{}), New(new(slab.Arena)), New(&bare)}
}

// P16.1: bytes that are put behind.

func TestExample(t *testing.T) {
	a := arena(t, [4]int{2, 2, 2, 2})
	c := chain(t, a, trial.Text(70, 1))
	if live(a) != [4]int{0, 1, 0, 0} || c.Charge() != 256 || c.Len() != 70 {
		t.Error(live(a), c.Charge(), c.Len())
	}
	d := chain(t, a, trial.Text(5000, 2))
	if live(a) != [4]int{0, 1, 1, 1} || d.Charge() != 5120 || d.Len() != 5000 {
		t.Error(live(a), d.Charge(), d.Len())
	}
}

// TestNothing asks chains that are none: nothing is there, and nothing is done.
func TestNothing(t *testing.T) {
	a := arena(t, [4]int{2, 2, 2, 2})
	is := chain(t, a, "x")
	for i, c := range nothing() {
		for range 2 {
			for _, n := range []int{0, 1, 65, 5000, mega, mega + 1} {
				if e := c.Append(make([]byte, n)); e != 1 {
					t.Error(i, n, e)
				}
			}
			for _, at := range ints {
				for _, n := range ints {
					if b, e := c.Read(at, n); len(b) != 0 || e != 1 {
						t.Error(i, at, n, b, e)
					}
				}
			}
			if e := c.Append(nil); e != 1 || c.Len() != 0 || c.Charge() != 0 {
				t.Error(i, e, c.Len(), c.Charge())
			}
			if d, e := c.Share(); d != nil || e != 1 {
				t.Error(i, d, e)
			}
			if e := c.Free(); e != 1 {
				t.Error(i, e)
			}
			for j, d := range append(nothing(), is, c) {
				if Alike(c, d) || Alike(d, c) {
					t.Error(i, j)
				}
			}
		}
	}
	if b, e := is.Read(0, 1); string(b) != "x" || e != 0 || live(a) != [4]int{1, 0, 0, 0} {
		t.Error(b, e, live(a))
	}
}

// TestArenaOfNoBlocks tells an arena without blocks from none at all.
func TestArenaOfNoBlocks(t *testing.T) {
	b := pair(t, [4]int{})
	l := b.make()
	for range 2 {
		for _, n := range some {
			if e := b.append(l, trial.Text(n, 1)); e != 0 && n == 0 || e != 14 && n > 0 {
				t.Error(n, e)
			}
		}
		b.read(l, 0, 0)
		b.read(l, 0, 1)
	}
	m := b.share(l)
	b.alike(l, m)
	b.append(m, "")
	b.free(l)
	b.end()
}

// TestAppendAlone tells which blocks are taken where all classes have enough.
func TestAppendAlone(t *testing.T) {
	for n, want := range map[int][4]int{
		0: {}, 1: {1}, 63: {1}, 64: {1}, 65: {0, 1}, 70: {0, 1}, 255: {0, 1}, 256: {0, 1}, 257: {0, 0, 1}, 1023: {0, 0, 1}, 1024: {0, 0, 1}, 1025: {0, 0, 0, 1}, 4095: {0, 0, 0, 1}, 4096: {0, 0, 0, 1},
		4097: {1, 0, 0, 1}, 4160: {1, 0, 0, 1}, 4161: {0, 1, 0, 1}, 4352: {0, 1, 0, 1}, 4353: {0, 0, 1, 1}, 5000: {0, 0, 1, 1}, 5120: {0, 0, 1, 1}, 5121: {0, 0, 0, 2}, 8192: {0, 0, 0, 2}, 8193: {1, 0, 0, 2}, 12289: {1, 0, 0, 3},
	} {
		a := arena(t, [4]int{9, 9, 9, 9})
		s := trial.Text(n, n)
		c := chain(t, a, s)
		charge, read := 0, ""
		for class := 3; class >= 0; class-- {
			charge += want[class] * told[class]
			for i := range want[class] {
				h := slab.Handle{Class: class, Index: i, Gen: 1}
				b, _ := a.Read(h, 0, told[class])
				read += string(b)
				if a.Held(h) != 1 {
					t.Error(n, h, a.Held(h))
				}
			}
		}
		if live(a) != want || c.Charge() != charge || c.Len() != n || read != s+strings.Repeat("\x00", charge-n) {
			t.Errorf("%d: %v, %d bytes of %d: %q", n, live(a), c.Len(), c.Charge(), read)
		}
		if b, e := c.Read(0, n); string(b) != s || e != 0 {
			t.Errorf("%d: %q %d", n, b, e)
		}
		if e := c.Free(); e != 0 || live(a) != [4]int{} {
			t.Error(n, e, live(a))
		}
	}
}

func TestAppendEach(t *testing.T) {
	for n := range 5300 {
		b := pair(t, [4]int{2, 2, 2, 2})
		b.append(b.make(), trial.Text(n, n))
		b.all()
		b.end()
	}
}

// TestAppendBehind puts each three of some bytes one behind the other, and the same once more as another chain between.
func TestAppendBehind(t *testing.T) {
	trial.Lists(some, 3, func(l []int) {
		b := pair(t, [4]int{20, 20, 20, 20})
		one, other := b.make(), b.make()
		for i, n := range l {
			b.append(one, trial.Text(n, i))
			b.append(other, trial.Text(n, i+9))
			b.append(one, "")
		}
		b.all()
		b.end()
	})
}

// TestAppendRoom puts bytes behind that are as many as the room, some less, and some more.
func TestAppendRoom(t *testing.T) {
	for class, size := range told {
		for _, room := range []int{0, 1, 2, 30, size/4 - 1, size / 4, size / 2, size - size/4 - 1} {
			for _, n := range []int{0, 1, room - 1, room, room + 1, room + 64, room + 65, room + 4097} {
				if n < 0 || least(size-room) != class {
					continue
				}
				b := pair(t, [4]int{4, 4, 4, 4})
				l := b.make()
				b.other(class, 3)
				b.append(l, trial.Text(size-room, 1))
				b.other(class, 4)
				before := live(b.a)
				if e := b.append(l, trial.Text(n, 2)); e != 0 {
					t.Error(class, room, n, e)
				}
				if n <= room != (live(b.a) == before) {
					t.Error(class, room, n, live(b.a))
				}
				if got, e := b.a.Read(slab.Handle{Class: class, Index: 1, Gen: 1}, size-room, min(n, room)); string(got) != trial.Text(n, 2)[:min(n, room)] || e != 0 {
					t.Errorf("class %d, room of %d, %d bytes: %q %d", class, room, n, got, e)
				}
				b.append(l, trial.Text(7, 3))
				b.all()
			}
		}
	}
}

// TestRoomFirst fills the room of the one block that there is: a byte more, and nothing is put behind.
func TestRoomFirst(t *testing.T) {
	for class, size := range told {
		for _, room := range []int{1, 2, 40, 63} {
			var blocks [4]int
			blocks[class] = 1
			b := pair(t, blocks)
			l := b.make()
			b.append(l, trial.Text(size-room, 1))
			for _, more := range []int{1, 2, 64, 4096, 5000} {
				if e := l.c.Append([]byte(trial.Text(room+more, 2))); e != 14 || l.c.Len() != size-room || l.c.Charge() != size {
					t.Error(class, room, more, e, l.c.Len(), l.c.Charge())
				}
				b.all() // the room's bytes are 0, too
			}
			for _, n := range []int{0, room - 1, 1} {
				if e := b.append(l, trial.Text(n, 3)); e != 0 {
					t.Error(class, room, n, e)
				}
			}
			if e := l.c.Append([]byte("x")); e != 14 || l.c.Len() != size {
				t.Error(class, room, e, l.c.Len())
			}
			b.append(l, "")
			b.all()
			b.end()
		}
	}
}

// TestNextClassBelow tells which blocks are taken where some classes have few.
func TestNextClassBelow(t *testing.T) {
	for _, c := range []struct {
		blocks [4]int
		n      int
		e      api.Errno
		want   [4]int
	}{
		{[4]int{9, 9, 9, 0}, 1025, 0, [4]int{1, 0, 1}},
		{[4]int{9, 9, 9, 0}, 4096, 0, [4]int{0, 0, 4}},
		{[4]int{9, 9, 9, 0}, 4097, 0, [4]int{1, 0, 4}},
		{[4]int{9, 9, 9, 0}, 5000, 0, [4]int{0, 0, 5}},
		{[4]int{9, 9, 0, 9}, 1000, 0, [4]int{0, 4}},
		{[4]int{9, 9, 0, 9}, 1024, 0, [4]int{0, 4}},
		{[4]int{9, 9, 0, 9}, 1025, 0, [4]int{0, 0, 0, 1}},
		{[4]int{9, 0, 9, 9}, 65, 0, [4]int{2}},
		{[4]int{9, 0, 9, 9}, 256, 0, [4]int{4}},
		{[4]int{9, 0, 9, 9}, 257, 0, [4]int{0, 0, 1}},
		{[4]int{9, 0, 0, 9}, 500, 0, [4]int{8}},
		{[4]int{9, 0, 1, 0}, 200, 0, [4]int{4}}, // a class above has a block
		{[4]int{1, 0, 9, 9}, 64, 0, [4]int{1}},
		{[4]int{1, 0, 9, 9}, 65, 14, [4]int{}},
		{[4]int{1, 2, 9, 9}, 576, 0, [4]int{0, 0, 1}},
		{[4]int{0, 9, 9, 9}, 1, 14, [4]int{}},
		{[4]int{0, 9, 9, 9}, 64, 14, [4]int{}},
		{[4]int{0, 9, 9, 9}, 65, 0, [4]int{0, 1}},
		{[4]int{0, 9, 9, 9}, 4096 + 64, 14, [4]int{}},
		{[4]int{0, 9, 9, 9}, 4096 + 65, 0, [4]int{0, 1, 0, 1}},
		{[4]int{0, 9, 9, 0}, 1024 + 1, 14, [4]int{}},
		{[4]int{4, 3, 2, 0}, 2000, 0, [4]int{0, 0, 2}},
		{[4]int{4, 3, 2, 0}, 3000, 0, [4]int{3, 3, 2}},
		{[4]int{4, 3, 2, 0}, 3072, 0, [4]int{4, 3, 2}},
		{[4]int{4, 3, 2, 0}, 3073, 14, [4]int{}},
		{[4]int{4, 3, 2, 1}, 7168, 0, [4]int{4, 3, 2, 1}},
		{[4]int{4, 3, 2, 1}, 7169, 14, [4]int{}},
		{[4]int{4, 3, 2, 1}, 4096 + 1024 + 256, 0, [4]int{0, 1, 1, 1}},
		{[4]int{4, 3, 2, 1}, 4096 + 2048 + 257, 0, [4]int{1, 1, 2, 1}},
		{[4]int{2, 1, 1, 0}, 5000, 14, [4]int{}},
		{[4]int{1, 1, 1, 1}, 5440, 0, [4]int{1, 1, 1, 1}},
		{[4]int{1, 1, 1, 1}, 5441, 14, [4]int{}},
		{[4]int{9, 0, 0, 1}, 4096 + 9*64, 0, [4]int{9, 0, 0, 1}},
		{[4]int{9, 0, 0, 1}, 4096 + 9*64 + 1, 14, [4]int{}},
	} {
		b := pair(t, c.blocks)
		l := b.make()
		if e := b.append(l, trial.Text(c.n, 5)); e != c.e {
			t.Errorf("%v, %d bytes: %d, not %d", c.blocks, c.n, e, c.e)
		}
		b.live(c.want)
		b.all()
		b.end()
	}
}

// TestBlocksInUse has blocks of which others hold the first ones: they are passed by.
func TestBlocksInUse(t *testing.T) {
	for class, size := range told {
		b := pair(t, [4]int{4, 4, 4, 4})
		for seed := range 3 {
			b.other(class, seed)
		}
		l := b.make()
		b.append(l, trial.Text(size, 7))
		b.all()
		b.append(l, trial.Text(size, 8))
		b.all()
		if class == 0 && l.c.Len() != 64 || class > 0 && live(b.a)[class-1] != 4 {
			t.Error(class, l.c.Len(), live(b.a))
		}
		for seed := range 4 {
			if h := b.seen[seed]; b.a.Held(h) != 1 {
				t.Error(class, h)
			}
		}
	}
}

// TestFewBlocks asks arenas of each mixture of few blocks for two chains.
func TestFewBlocks(t *testing.T) {
	sizes := []int{1, 64, 65, 128, 129, 192, 256, 257, 512, 513, 576, 1024, 1025, 1088, 1344, 2048, 2049, 4096, 4097, 4160, 4352, 5000, 5120, 5440, 6144, 8192, 9000, 10880}
	trial.Lists([]int{0, 1, 2}, 4, func(blocks []int) {
		if len(blocks) < 4 {
			return
		}
		for _, n := range sizes {
			b := pair(t, [4]int(blocks))
			one, other := b.make(), b.make()
			b.append(one, trial.Text(n/3, 1))
			b.append(one, trial.Text(n, 2))
			b.all()
			b.append(other, trial.Text(n, 3))
			b.append(one, trial.Text(n/2, 4))
			b.all()
			b.free(one)
			b.append(other, trial.Text(n, 5))
			b.all()
			b.end()
		}
	})
}

// TestFull tells that nothing is left of an Append that found no room, but that its blocks were taken once.
func TestFull(t *testing.T) {
	b := pair(t, [4]int{3, 2, 1, 0})
	l := b.make()
	if e := l.c.Append([]byte(trial.Text(100, 1))); e != 0 {
		t.Fatal(e)
	}
	b.put(l, trial.Text(100, 1))
	for gen := 1; gen < 9; gen++ {
		if e := l.c.Append([]byte(trial.Text(5000, gen))); e != 14 || l.c.Len() != 100 || l.c.Charge() != 256 || live(b.a) != [4]int{0, 1, 0, 0} {
			t.Error(gen, e, l.c.Len(), l.c.Charge(), live(b.a))
		}
		if got, e := l.c.Read(0, 100); string(got) != trial.Text(100, 1) || e != 0 {
			t.Error(gen, got, e)
		}
		b.put(l, trial.Text(5000, gen))
		for _, h := range []slab.Handle{{Class: 2, Index: 0, Gen: gen}, {Class: 1, Index: 1, Gen: gen}, {Class: 0, Index: 2, Gen: gen}} {
			if b.a.Held(h) != 0 {
				t.Error(h)
			}
		}
		b.all()
	}
	if e := b.append(l, trial.Text(156+1024+256+192, 4)); e != 0 {
		t.Error(e)
	}
	b.live([4]int{3, 2, 1, 0})
	for _, h := range []slab.Handle{{Class: 2, Index: 0, Gen: 9}, {Class: 1, Index: 1, Gen: 9}, {Class: 0, Index: 0, Gen: 9}, {Class: 0, Index: 2, Gen: 9}} {
		if b.a.Held(h) != 1 {
			t.Error(h)
		}
	}
	if e := b.append(l, "x"); e != 14 {
		t.Error(e)
	}
	b.all()
	b.end()
}

// TestMaxBody puts as many bytes behind as a chain may have, and one more, in arenas that have as many, more, and less.
func TestMaxBody(t *testing.T) {
	whole := trial.Text(mega+1, 3)
	for _, c := range []struct {
		blocks [4]int
		e      api.Errno
	}{
		{[4]int{0, 0, 0, 256}, 0}, {[4]int{0, 0, 0, 257}, 0}, {[4]int{0, 0, 0, 255}, 14}, {[4]int{}, 14},
		{[4]int{0, 0, 1024, 0}, 0}, {[4]int{0, 0, 1023, 0}, 14}, {[4]int{0, 4096, 0, 0}, 0}, {[4]int{4096, 3072, 0, 0}, 0}, {[4]int{4095, 3072, 0, 0}, 14}, {[4]int{4096, 3071, 4096, 4096}, 0}, {[4]int{64, 16, 4, 253}, 0}, {[4]int{63, 16, 4, 253}, 14},
	} {
		b := pair(t, c.blocks)
		l := b.make()
		for _, n := range []int{mega + 1, mega} {
			want := c.e
			if n > mega {
				want = 3
			}
			if e := b.append(l, whole[:n]); e != want {
				t.Errorf("%v, %d bytes: %d, not %d", c.blocks, n, e, want)
			}
		}
		if c.e == 0 && l.c.Len() != 1048576 || c.e != 0 && l.c.Len() != 0 {
			t.Error(c.blocks, l.c.Len())
		}
		b.read(l, 0, len(l.bytes))
		b.end()
	}
}

// TestMaxBodyInPieces comes to MaxBody step by step; then a byte more is told, also where there is no block for it.
func TestMaxBodyInPieces(t *testing.T) {
	for _, pieces := range [][]int{{mega - 1, 1}, {1, mega - 1}, {mega}, {0, mega, 0}, {mega / 2, mega / 2}, {4096, mega - 4096}, {65537, 65537, mega - 131074}, {mega - 4096, 4095, 1}} {
		for _, spare := range []int{0, 9} {
			b := pair(t, [4]int{64 + spare, 16 + spare, 4 + spare, 255 + spare})
			l := b.make()
			for i, n := range pieces {
				if e := b.append(l, trial.Text(n, i)); e != 0 {
					t.Error(pieces, n, e)
				}
			}
			if l.c.Len() != 1048576 {
				t.Error(pieces, l.c.Len())
			}
			for _, n := range []int{1, 2, 64, 5000, mega, mega + 1} {
				if e := b.append(l, trial.Text(n, 0)); e != 3 {
					t.Error(pieces, n, e)
				}
			}
			if e := b.append(l, ""); e != 0 {
				t.Error(pieces, e)
			}
			b.read(l, 0, mega)
			b.read(l, 0, mega+1)
			b.read(l, mega-70, 70)
		}
	}
}

// TestAppendState tells which error comes first.
func TestAppendState(t *testing.T) {
	for _, blocks := range [][4]int{{9, 9, 9, 300}, {1}} {
		for _, first := range []int{0, 1, 64} {
			b := pair(t, blocks)
			shared, freed, gone, last := b.make(), b.make(), b.make(), b.make()
			b.append(shared, trial.Text(first, 1))
			other := b.share(shared)
			b.free(freed)
			b.share(gone)
			b.free(gone)
			left := b.share(last)
			b.free(left)
			third := b.share(other)
			b.free(third)
			for _, n := range []int{0, 1, 5000, mega, mega + 1} {
				for i, c := range []struct {
					l *link
					e api.Errno
				}{{shared, 2}, {other, 2}, {last, 2}, {third, 16}, {left, 16}, {freed, 16}, {gone, 16}} {
					if e := b.append(c.l, trial.Text(n, 2)); e != c.e {
						t.Error(blocks, first, n, i, e)
					}
				}
			}
			b.all()
			b.free(shared) // the other one stays as it is, though it is alone now
			if e := b.append(other, "x"); e != 2 {
				t.Error(e)
			}
			b.all()
			b.end()
		}
	}
}

// P16.2: bytes that are read, and counted.

// pieces makes a chain of blocks of all classes, in an order that is not that of the classes.
func pieces(t *testing.T) (*both, *link) {
	t.Helper()
	b := pair(t, [4]int{9, 9, 9, 9})
	l := b.make()
	for i, n := range []int{64, 5000, 120, 60, 10, 256, 1} {
		b.append(l, trial.Text(n, i))
		b.other(i%4, i)
	}
	b.all()
	return b, l
}

// TestRead reads parts that begin and end at each block's ends, beside them, and in the midst.
func TestRead(t *testing.T) {
	b, l := pieces(t)
	places := append([]int{low + len(l.bytes), high - len(l.bytes), high - len(l.bytes) + 1, len(l.bytes) / 2}, ints...)
	end := 0
	for _, h := range l.blocks {
		for d := -2; d < 3; d++ {
			places = append(places, end+d)
		}
		places = append(places, end+told[h.Class]/2)
		end += told[h.Class]
	}
	for d := -2; d < 3; d++ {
		places = append(places, end+d, len(l.bytes)+d)
	}
	for _, at := range places {
		for _, to := range places {
			b.read(l, at, to)
			b.read(l, at, to-at) // wraps round for some
		}
	}
	b.all()
}

// TestReadEachPart reads each part of a few blocks.
func TestReadEachPart(t *testing.T) {
	for _, blocks := range [][4]int{{5}, {5, 1}, {2, 1, 1}} {
		b := pair(t, blocks)
		l := b.make()
		b.append(l, trial.Text(64, 1))
		b.append(l, trial.Text(129, 2))
		b.append(l, trial.Text(50, 3))
		for at := -2; at < 250; at++ {
			for n := -2; n < 250; n++ {
				b.read(l, at, n)
			}
		}
	}
}

func TestReadWrong(t *testing.T) {
	for _, n := range []int{0, 1, 64, 100, 5000} {
		s := trial.Text(n, 1)
		c := chain(t, arena(t, [4]int{9, 9, 9, 9}), s)
		for _, part := range []struct {
			at, n int
			e     api.Errno
		}{{0, 0, 0}, {0, n, 0}, {n, 0, 0}, {n / 2, n - n/2, 0}, {0, n + 1, 2}, {n, 1, 2}, {n + 1, 0, 2}, {1, n, 2}, {-1, 0, 2}, {-1, 1, 2}, {-1, n + 1, 2}, {0, -1, 2}, {n, -1, 2}, {n + 1, -1, 2}, {1, -1, 2},
			{high, 0, 2}, {0, high, 2}, {high, high, 2}, {high, 1, 2}, {1, high, 2}, {low, 0, 2}, {0, low, 2}, {low, low, 2}, {low, high, 2}, {high, low, 2}, {n + 1, high, 2}, {high, low + n + 1, 2}, {low, n + 1, 2}} {
			b, e := c.Read(part.at, part.n)
			if e != part.e || e != 0 && len(b) != 0 || e == 0 && string(b) != s[part.at:part.at+part.n] {
				t.Errorf("Read(%d, %d) of %d bytes: %q %d", part.at, part.n, n, b, e)
			}
		}
		if e := c.Free(); e != 0 {
			t.Error(e)
		}
		for _, at := range ints { // ErrState comes first
			for _, n := range ints {
				if b, e := c.Read(at, n); len(b) != 0 || e != 16 {
					t.Error(at, n, b, e)
				}
			}
		}
	}
}

func TestLenAndCharge(t *testing.T) {
	a := arena(t, [4]int{3, 2, 1, 1})
	c := New(a)
	var other *Chain
	is := func(c *Chain, bytes, charge int) {
		t.Helper()
		if c.Len() != bytes || c.Charge() != charge {
			t.Errorf("%d bytes of %d, not %d of %d", c.Len(), c.Charge(), bytes, charge)
		}
	}
	put := func(n int, want api.Errno) {
		t.Helper()
		if e := c.Append(make([]byte, n)); e != want {
			t.Error(n, e)
		}
	}
	is(c, 0, 0)
	put(0, 0)
	is(c, 0, 0)
	put(10, 0)
	is(c, 10, 64)
	put(54, 0)
	is(c, 64, 64)
	put(0, 0)
	is(c, 64, 64)
	put(1, 0)
	is(c, 65, 128)
	put(163, 0)
	is(c, 228, 384)
	put(6000, 14)
	is(c, 228, 384)
	put(mega, 3)
	is(c, 228, 384)
	put(156+4096+1024, 0)
	is(c, 5504, 5504)
	c.Read(0, 6000)
	c.Read(5, 70)
	is(c, 5504, 5504)
	put(300, 0) // the last ones of class 1 and of class 0
	is(c, 5804, 5824)
	put(21, 14)
	is(c, 5804, 5824)
	other, _ = c.Share()
	is(c, 5804, 5824)
	is(other, 5804, 5824)
	put(1, 2)
	is(c, 5804, 5824)
	if c.Free() != 0 {
		t.Error("Free")
	}
	is(c, 0, 0)
	is(other, 5804, 5824)
	put(1, 16)
	is(c, 0, 0)
	if c.Free() != 16 || other.Free() != 0 {
		t.Error("Free")
	}
	is(c, 0, 0)
	is(other, 0, 0)
	for _, none := range nothing() {
		is(none, 0, 0)
	}
}

// P16.3: chains that share, are freed, and are alike.

// TestShare makes chains of one, of one that was shared, and of one that Share made: each block is held once by each.
func TestShare(t *testing.T) {
	for _, n := range []int{0, 1, 64, 70, 5000, 9000} {
		b := pair(t, [4]int{9, 9, 9, 9})
		beside := b.make()
		b.append(beside, trial.Text(n, 9))
		first := b.make()
		b.append(first, trial.Text(n, 1))
		all := []*link{first, b.share(first)}
		all = append(all, b.share(first), b.share(all[1]))
		all = append(all, b.share(all[3]))
		before := live(b.a)
		for i, l := range all {
			for _, h := range l.blocks {
				is(b, b.a.Held(h), 5-i, "Held(%v)", h)
			}
			for _, m := range all[i:] {
				if !Alike(l.c, m.c) || !Alike(m.c, l.c) || m.c.Len() != n {
					t.Error(n, i)
				}
			}
			is(b, live(b.a), before, "Live")
			b.all()
			b.free(l)
			b.share(l)
		}
		for i := range before {
			before[i] /= 2
		}
		b.live(before)
		b.all()
		b.end()
	}
}

// TestShareOfHeldBlocks shares where one block is held as often as one may be: none is held more, and the chain stays as it was.
func TestShareOfHeldBlocks(t *testing.T) {
	blocks := []slab.Handle{{Class: 3, Index: 0, Gen: 1}, {Class: 2, Index: 0, Gen: 1}, {Class: 0, Index: 0, Gen: 1}}
	for at, full := range blocks {
		a := arena(t, [4]int{3, 3, 3, 3})
		c := chain(t, a, trial.Text(5000, 1))
		if e := c.Append([]byte(trial.Text(130, 2))); e != 0 || live(a) != [4]int{1, 0, 1, 1} {
			t.Fatal(e, live(a))
		}
		for n := 1; n < 1048576; n++ {
			if e := a.Hold(full); e != 0 {
				t.Fatal(n, e)
			}
		}
		is := func(held int) {
			t.Helper()
			for i, h := range blocks {
				if i != at && a.Held(h) != held || i == at && a.Held(h) != 1048575+held {
					t.Error(at, h, a.Held(h))
				}
			}
		}
		for range 3 {
			if d, e := c.Share(); d != nil || e != 3 {
				t.Error(at, d, e)
			}
			is(1)
		}
		if e := c.Append([]byte("x")); e != 0 || c.Len() != 5131 { // it was not shared
			t.Error(at, e, c.Len())
		}
		a.Drop(full)
		d, e := c.Share()
		if e != 0 || !Alike(c, d) || a.Held(full) != 1048576 || c.Free() != 0 || d.Free() != 0 || a.Held(full) != 1048574 {
			t.Error(full, e, a.Held(full))
		}
	}
}

// TestFree frees each of several that share, in each order.
func TestFree(t *testing.T) {
	for _, n := range []int{0, 1, 65, 5000} {
		trial.Orders([]int{0, 1, 2, 3}, func(order []int) {
			b := pair(t, [4]int{3, 3, 3, 3})
			beside := b.make()
			b.append(beside, trial.Text(n, 9))
			first := b.make()
			b.append(first, trial.Text(n, 2))
			second := b.share(first)
			group := []*link{first, second, b.share(second), b.share(first)}
			blocks := first.blocks
			for i, at := range order {
				for _, h := range blocks {
					is(b, b.a.Held(h), 4-i, "Held(%v)", h)
				}
				b.free(group[at])
				b.free(group[at])
				b.all()
			}
			for _, h := range blocks {
				is(b, b.a.Held(h), 0, "Held(%v)", h)
			}
			b.append(b.make(), trial.Text(n, 5)) // takes them anew
			for _, l := range group {
				b.free(l)
			}
			b.all()
			b.end()
		})
	}
}

// TestFreeTold tells what each call says of a chain that was freed.
func TestFreeTold(t *testing.T) {
	for _, n := range []int{0, 1, 70, 5000} {
		a := arena(t, [4]int{2, 2, 2, 2})
		c := chain(t, a, trial.Text(n, 1))
		if e := c.Free(); e != 0 || live(a) != [4]int{} {
			t.Error(n, e, live(a))
		}
		d := chain(t, a, trial.Text(n, 2))
		before := live(a)
		for range 2 {
			other, e := c.Share()
			b, readError := c.Read(0, 0)
			if c.Free() != 16 || other != nil || e != 16 || len(b) != 0 || readError != 16 || c.Append(nil) != 16 || c.Len() != 0 || c.Charge() != 0 || Alike(c, c) || Alike(c, d) || Alike(d, c) {
				t.Error(n)
			}
		}
		if b, e := d.Read(0, n); string(b) != trial.Text(n, 2) || e != 0 || live(a) != before {
			t.Error(n, e, live(a))
		}
	}
}

func TestAlike(t *testing.T) {
	a, other := arena(t, [4]int{20, 20, 20, 20}), arena(t, [4]int{20, 20, 20, 20})
	of := func(a *slab.Arena, n int) *Chain { return chain(t, a, trial.Text(n, 1)) }
	share := func(c *Chain) *Chain {
		d, e := c.Share()
		if e != 0 {
			t.Fatal(e)
		}
		return d
	}
	free := func(c *Chain) *Chain {
		if e := c.Free(); e != 0 {
			t.Fatal(e)
		}
		return c
	}
	var groups [][]*Chain // those of one are alike, those of two are not
	add := func(l ...*Chain) { groups = append(groups, l) }
	empty := of(a, 0)
	add(empty, of(a, 0), share(empty), of(other, 0), share(of(other, 0)))
	for _, a := range []*slab.Arena{a, other} { // blocks of the same handles
		for _, n := range []int{1, 64, 70, 5000} {
			one := of(a, n)
			add(one, share(one), share(share(one)))
			add(of(a, n))
			gone := of(a, n)
			two, three := share(gone), share(gone)
			free(gone)
			add(two, three)
		}
		part := of(a, 64) // its block is the first one of the next one's, too, as they are of one class
		add(part)
		longer := of(a, 64)
		longer.Append([]byte("x"))
		add(longer)
	}
	for i, l := range groups {
		for j, m := range groups {
			for _, c := range l {
				for _, d := range m {
					if Alike(c, d) != (i == j) {
						t.Error(i, j, c.Len(), d.Len())
					}
				}
			}
		}
	}
	never := append(nothing(), free(of(a, 0)), free(of(a, 5)), free(share(of(a, 70))))
	for i, c := range never {
		for _, d := range append(never, groups[0][0], groups[1][0], groups[1][1]) {
			if Alike(c, d) || Alike(d, c) {
				t.Error(i)
			}
		}
	}
}

// TestAlikeInOneArena holds chains of one block, of two, and of the same one taken anew against each other.
func TestAlikeInOneArena(t *testing.T) {
	b := pair(t, [4]int{2})
	one := b.make()
	b.append(one, trial.Text(64, 1))
	shared := b.share(one)
	long := b.make()
	b.append(long, trial.Text(3, 2))
	for _, l := range b.links {
		for _, m := range b.links {
			b.alike(l, m)
		}
	}
	b.free(one)
	b.free(shared)
	anew := b.make()
	b.append(anew, trial.Text(64, 1))
	for _, l := range b.links {
		for _, m := range b.links {
			b.alike(l, m)
		}
	}
	if anew.blocks[0] != (slab.Handle{Class: 0, Index: 0, Gen: 2}) {
		t.Error(anew.blocks)
	}
}

// P16.4: what was put behind is read, and let go with the last chain.

// step does one call that chance chooses.
func (b *both) step(chance *rand.Rand) {
	if len(b.links) == 0 || chance.Intn(12) == 0 {
		b.make()
		return
	}
	l := b.links[len(b.links)-1-chance.Intn(min(len(b.links), 8))]
	n := chance.Intn(5200)
	switch chance.Intn(3) {
	case 0:
		n = some[chance.Intn(len(some))]
	case 1:
		n = max(0, l.room()+chance.Intn(4)-1)
	}
	switch chance.Intn(12) {
	case 0, 1, 2, 3:
		b.append(l, trial.Text(n, chance.Intn(250)))
	case 4, 5:
		at := chance.Intn(len(l.bytes) + 1)
		b.read(l, at, chance.Intn(len(l.bytes)+2-at))
		b.read(l, ints[chance.Intn(len(ints))], at)
		b.read(l, at, ints[chance.Intn(len(ints))])
	case 6:
		b.share(l)
	case 7, 8, 9:
		b.free(l)
	case 10:
		b.alike(l, b.links[chance.Intn(len(b.links))])
		b.alike(b.links[chance.Intn(len(b.links))], l)
	case 11:
		h := b.other(chance.Intn(4), chance.Intn(250))
		if chance.Intn(4) > 0 {
			is(b, b.a.Drop(h), b.own.Drop(h), "Drop(%v)", h)
		}
	}
}

// forget leaves what was asked often enough: the last blocks, and the chains that are not freed.
func (b *both) forget() {
	b.seen = b.seen[max(0, len(b.seen)-150):]
	b.links = slices.DeleteFunc(b.links, func(l *link) bool { return l.freed })
	for len(b.links) > 12 {
		b.free(b.links[0])
		b.links = b.links[1:]
	}
}

// TestLongRuns mixes calls over several chains, and asks for all that is kept again and again.
func TestLongRuns(t *testing.T) {
	chance := rand.New(rand.NewSource(16))
	for run := range 100 {
		b := pair(t, [4]int{chance.Intn(12), chance.Intn(8), chance.Intn(6), chance.Intn(5)})
		for i := range 1000 {
			b.step(chance)
			if i%20 == run%20 {
				b.all()
				b.forget()
			}
			if t.Failed() {
				t.Fatal(run, i)
			}
		}
		for _, l := range b.links {
			if !l.freed {
				b.free(l)
			}
		}
		b.all()
	}
}

// TestAllAreFreed shares and puts behind in many pieces; where the last one is freed, all blocks are free.
func TestAllAreFreed(t *testing.T) {
	a := arena(t, [4]int{50, 20, 10, 5})
	s := trial.Text(9000, 1)
	for seed := range 40 {
		chance := rand.New(rand.NewSource(int64(seed)))
		c := New(a)
		for at := 0; at < len(s); {
			n := min(1+chance.Intn(700), len(s)-at)
			if e := c.Append([]byte(s[at : at+n])); e != 0 {
				t.Fatal(seed, at, n, e)
			}
			at += n
		}
		all := []*Chain{c}
		for range 6 {
			d, e := all[chance.Intn(len(all))].Share()
			if e != 0 {
				t.Fatal(seed, e)
			}
			all = append(all, d)
		}
		chance.Shuffle(len(all), func(i, j int) { all[i], all[j] = all[j], all[i] })
		for i, c := range all {
			for _, d := range all[i:] {
				if b, e := d.Read(0, 9000); string(b) != s || e != 0 || d.Len() != 9000 {
					t.Error(seed, i, e)
				}
			}
			if live(a) == [4]int{} || c.Free() != 0 {
				t.Error(seed, i, live(a))
			}
		}
		if live(a) != [4]int{} {
			t.Error(seed, live(a))
		}
	}
}

// TestBytesOneByOne puts bytes behind one by one, until no block of the least class is left.
func TestBytesOneByOne(t *testing.T) {
	for n := range 6 {
		b := pair(t, [4]int{n, 9, 9, 9})
		l := b.make()
		for i := range 64 * n {
			if e := b.append(l, trial.Text(1, i)); e != 0 {
				t.Fatal(i, e)
			}
		}
		b.all()
		if e := b.append(l, "x"); e != 14 {
			t.Error(e)
		}
		b.live([4]int{n})
		b.all()
	}
}

// Wrong inputs.

// TestAnyInts hands any ints to Read, and any bytes to Append.
func TestAnyInts(t *testing.T) {
	chance := rand.New(rand.NewSource(61))
	b, l := pieces(t)
	shared, freed := b.share(b.make()), b.make()
	b.free(freed)
	wild := func() int {
		switch chance.Intn(3) {
		case 0:
			return ints[chance.Intn(len(ints))]
		case 1:
			return chance.Intn(len(l.bytes)+9) - 4
		}
		return int(chance.Uint64())
	}
	for i := range 60000 {
		for _, l := range []*link{l, shared, freed} {
			b.read(l, wild(), wild())
		}
		if i%6000 == 0 {
			b.append(l, trial.Text(mega+i, i))
			b.append(shared, trial.Text(i, i))
			b.append(freed, trial.Text(i, i))
			b.all()
		}
		if t.Failed() {
			t.Fatal(i)
		}
	}
	b.all()
}

// TestLongBytes puts more behind than any chain may have.
func TestLongBytes(t *testing.T) {
	long := make([]byte, 1<<22)
	b := pair(t, [4]int{9, 9, 9, 512})
	l := b.make()
	for _, first := range []int{0, 1, 70, 5000} {
		b.append(l, trial.Text(first, 1))
		for _, n := range []int{mega + 1, mega + 4096, 1 << 21, 1 << 22} {
			if e := l.c.Append(long[:n]); e != 3 {
				t.Error(first, n, e)
			}
		}
		b.all()
	}
}

// TestBlocksLetGoByOthers lets a chain's blocks go without it: its calls end, and no block of another one is told or written.
func TestBlocksLetGoByOthers(t *testing.T) {
	for _, n := range []int{1, 64, 100, 5000} {
		a := arena(t, [4]int{3, 3, 3, 3})
		c := chain(t, a, trial.Text(n, 1))
		for class := range 4 {
			a.Drop(slab.Handle{Class: class, Index: 0, Gen: 1})
		}
		d := chain(t, a, trial.Text(n, 2))
		before := live(a)
		if b, e := c.Read(0, n); len(b) != 0 || e != 15 {
			t.Error(n, b, e)
		}
		if other, e := c.Share(); other != nil || e != 15 {
			t.Error(n, other, e)
		}
		if n < c.Charge() {
			if e := c.Append(make([]byte, 1000)); e != 15 || c.Len() != n || live(a) != before {
				t.Error(n, e, c.Len(), live(a))
			}
		}
		if e := c.Free(); e != 0 || c.Free() != 16 || live(a) != before {
			t.Error(n, e, live(a))
		}
		if b, e := d.Read(0, n); string(b) != trial.Text(n, 2) || e != 0 {
			t.Error(n, b, e)
		}
	}
}

// What is handed in, and out.

// TestReadIsNew keeps what was read, while the chain goes on and is freed, and writes over it, its spare room too.
func TestReadIsNew(t *testing.T) {
	for _, n := range []int{0, 1, 64, 70, 5000} {
		for _, part := range [][2]int{{0, n}, {0, 1}, {n / 2, n - n/2}, {n / 3, n / 3}, {n, 0}, {0, 0}} {
			at, most := part[0], min(part[1], n-part[0])
			s := trial.Text(n, 1)
			a := arena(t, [4]int{4, 4, 4, 4})
			c := chain(t, a, s)
			first, _ := c.Read(at, most)
			second, _ := c.Read(at, most)
			over := first[:cap(first)]
			for i := range over {
				over[i] = 0
			}
			if b, e := c.Read(0, n); string(b) != s || e != 0 || string(second) != s[at:at+most] {
				t.Error("written over:", n, part, e)
			}
			third, _ := c.Read(at, most)
			c.Append([]byte(trial.Text(50, 9)))
			c.Free()
			chain(t, a, trial.Text(n, 7))
			if string(second) != s[at:at+most] || string(third) != s[at:at+most] {
				t.Error("freed:", n, part)
			}
		}
	}
}

// TestAppendKeepsNothing writes over what was handed in: the chain stays; and neither it nor its spare room was changed.
func TestAppendKeepsNothing(t *testing.T) {
	for _, n := range some {
		for _, blocks := range [][4]int{{9, 9, 9, 9}, {1}} {
			a := arena(t, blocks)
			c := chain(t, a, "ahead")
			room := []byte(trial.Text(n+300, 4))
			e := c.Append(room[:n])
			if string(room) != trial.Text(n+300, 4) {
				t.Error(n, "changed")
			}
			for i := range room {
				room[i] = 255
			}
			want := "ahead"
			if e == 0 {
				want += trial.Text(n+300, 4)[:n]
			}
			if b, e := c.Read(0, len(want)); string(b) != want || e != 0 || c.Len() != len(want) {
				t.Error(n, e)
			}
			c.Append([]byte("behind"))
			c.Share()
			c.Free()
			chain(t, arena(t, [4]int{9, 9, 9, 9}), "another")
			if string(room) != strings.Repeat("\xff", n+300) {
				t.Error(n, "written")
			}
		}
	}
}

// TestSharedIsItsOwn frees and shares one of two in turns: what one does, the other does not tell.
func TestSharedIsItsOwn(t *testing.T) {
	b := pair(t, [4]int{4, 4, 4, 4})
	l := b.make()
	b.append(l, trial.Text(8292, 3))
	for range 50 {
		m := b.share(l)
		b.free(l)
		b.all()
		if got := len(m.blocks); got != 3 || b.a.Held(m.blocks[0]) != 1 {
			t.Error(got)
		}
		l = m
	}
	b.end()
}

// TestTwoArenas drives chains of two arenas in turn: what one does, the other does not tell.
func TestTwoArenas(t *testing.T) {
	one, other := pair(t, [4]int{5, 4, 3, 2}), pair(t, [4]int{3, 3, 2, 2})
	chance := rand.New(rand.NewSource(4))
	for i := range 3000 {
		one.step(chance)
		other.step(chance)
		if i%30 == 0 {
			for _, b := range []*both{one, other} {
				b.all()
				b.forget()
			}
		}
	}
}

func TestManyAtOneTime(t *testing.T) {
	var all sync.WaitGroup
	for seed := range 8 {
		all.Go(func() {
			chance := rand.New(rand.NewSource(int64(seed)))
			b := &both{t: t}
			b.a, _ = slab.New([4]int{5, 3, 2, 1})
			b.own, _ = slab.New([4]int{5, 3, 2, 1})
			for range 1000 {
				b.step(chance)
			}
			b.all()
		})
	}
	all.Wait()
}
