package framing

import (
	"bytes"
	"math"
	"regexp"
	"slices"
	"strconv"
	"strings"
	"testing"

	"gatepost/api"
	"gatepost/field"
	"gatepost/trial"
)

const mega = 1 << 20 // MaxBody

// outcome is what a text comes to: the body's bytes, how many bytes are taken in all, and what is told then.
type outcome struct {
	body string
	used int
	done bool
	e    api.Errno
}

func (o outcome) over() bool { return o.done || o.e != api.OK }

// A chunk's line as a pattern, which these tests hold the package against.
var sizeForm = regexp.MustCompile(`^([0-9a-fA-F]{1,8})(?:[ \t]*|[ \t]*;[^\x00-\x08\x7f]*)$`)

// wide makes a text of bytes one of characters, a byte each, so that a pattern sees bytes.
func wide(s string) string {
	r := make([]rune, len(s))
	for i := range len(s) {
		r[i] = rune(s[i])
	}
	return string(r)
}

// plain is the plain reading of a body: a byte at a time.
type plain struct {
	kind, n int
	part    string // of chunks: size, bytes, gap, trailer
	left    int
	line    []byte
	body    []byte
	ahead   []int // how many of the body's bytes are among the first so many bytes
	out     outcome
}

func read(kind, n int, s string) *plain {
	p := &plain{kind: kind, n: n, part: "size", ahead: []int{0}}
	p.out.done = kind == None || kind == Length && n == 0
	for i := 0; i < len(s) && !p.out.over(); i++ {
		p.out.used++
		p.take(s[i])
		p.ahead = append(p.ahead, len(p.body))
	}
	p.out.body = string(p.body)
	return p
}

func (p *plain) take(c byte) {
	switch {
	case p.kind == Length:
		p.body = append(p.body, c)
		p.out.done = len(p.body) == p.n
	case p.kind == Close && len(p.body) == mega:
		p.out.e = api.ErrBig
	case p.kind == Close:
		p.body = append(p.body, c)
	case p.part == "bytes":
		p.body = append(p.body, c)
		if p.left--; p.left == 0 {
			p.part = "gap"
		}
	case len(p.line) == 1025:
		p.out.e = api.ErrBig
	case c == 10:
		text := strings.TrimSuffix(string(p.line), "\r")
		p.line = nil
		p.ended(text)
	default:
		p.line = append(p.line, c)
	}
}

func (p *plain) ended(text string) {
	switch {
	case p.part == "size":
		p.size(text)
	case p.part == "gap" && text == "":
		p.part = "size"
	case p.part == "gap":
		p.out.e = api.ErrLength
	case text == "":
		p.out.done = true
	default:
		_, p.out.e = field.Parse(text)
	}
}

func (p *plain) size(text string) {
	m := sizeForm.FindStringSubmatch(wide(text))
	if m == nil {
		p.out.e = api.ErrLength
		return
	}
	n, _ := strconv.ParseInt(m[1], 16, 64)
	switch {
	case int64(len(p.body))+n > mega:
		p.out.e = api.ErrBig
	case n == 0:
		p.part = "trailer"
	default:
		p.part, p.left = "bytes", int(n)
	}
}

func made(t *testing.T, kind, n int) *Decoder {
	t.Helper()
	d, e := New(kind, n)
	if d == nil || e != api.OK {
		t.Fatalf("New(%d, %d) = %v, %d", kind, n, d, e)
	}
	return d
}

// behind is what lies in the spare room of a piece that is fed.
const behind = "1\r\na\r\n0\r\n\r\n\n"

// give feeds a piece that has spare room, looks whether both read as before, and writes them over.
func give(t *testing.T, d *Decoder, piece string) (out []byte, used int, done bool, e api.Errno) {
	t.Helper()
	room := append(append(make([]byte, 0, len(piece)+len(behind)), piece...), behind...)
	out, used, done, e = d.Feed(room[:len(piece)])
	if string(room[:len(piece)]) != piece || string(room[len(piece):]) != behind {
		t.Fatalf("%.300q became %.300q", piece+behind, room)
	}
	clear(room)
	return out, used, done, e
}

// fed feeds pieces to a new decoder, and holds each answer against what all of them come to.
// What was told is looked at again behind all, and half of it is written over right away.
func fed(t *testing.T, kind, n int, p *plain, pieces ...string) *Decoder {
	t.Helper()
	d, taken, want := made(t, kind, n), 0, p.out
	var kept [][]byte
	var wanted []string
	for i, piece := range pieces {
		wantUsed := min(len(piece), want.used-taken)
		wantOut := want.body[p.ahead[taken]:p.ahead[taken+wantUsed]]
		taken += wantUsed
		var now outcome
		if taken == want.used {
			now = want
		}
		out, used, done, e := give(t, d, piece)
		if string(out) != wantOut || used != wantUsed || done != now.done || e != now.e {
			t.Fatalf("piece %d of %.300q: %.100q, %d, %v, %d, not %.100q, %d, %v, %d", i, pieces, out, used, done, e, wantOut, wantUsed, now.done, now.e)
		}
		if i%2 == 0 {
			clear(out[:cap(out)])
			continue
		}
		kept, wanted = append(kept, out), append(wanted, wantOut)
	}
	for i, out := range kept {
		if string(out) != wanted[i] {
			t.Fatalf("%.100q became %.100q", wanted[i], out)
		}
	}
	return d
}

// single cuts a text into its bytes.
func single(s string) []string {
	var l []string
	for i := range len(s) {
		l = append(l, s[i:i+1])
	}
	return l
}

// stays looks whether a decoder that is whole, or failed, takes nothing more and tells what it told.
func stays(t *testing.T, d *Decoder, done bool, e api.Errno) {
	t.Helper()
	for _, more := range []string{"", "\n", "\r\n", "x", "0\r\n\r\n", "1\r\na\r\n", "A: 1\r\n\r\n", strings.Repeat("x", 2000), ""} {
		out, used, gotDone, gotE := give(t, d, more)
		if len(out) != 0 || used != 0 || gotDone != done || gotE != e {
			t.Fatalf("behind the end Feed(%.30q) = %q, %d, %v, %d, not %v, %d", more, out, used, gotDone, gotE, done, e)
		}
		if gotDone, gotE := d.End(); gotDone != done || gotE != e {
			t.Fatalf("behind the end End() = %v, %d, not %v, %d", gotDone, gotE, done, e)
		}
	}
}

// ends ends a decoder that came so far, and looks at what it is from then on.
func ends(t *testing.T, d *Decoder, kind int, now outcome) {
	t.Helper()
	want := now
	if !now.over() && kind == Close {
		want.done = true
	} else if !now.over() {
		want.e = api.ErrLost
	}
	if done, e := d.End(); done != want.done || e != want.e {
		t.Fatalf("End() = %v, %d, not %v, %d", done, e, want.done, want.e)
	}
	stays(t, d, want.done, want.e)
}

// comes feeds a text whole, byte by byte, and cut at every place, with a piece of no byte between:
// each way it must come to what is wanted. Each beginning of it is ended, too.
func comes(t *testing.T, kind, n int, s string, want outcome) {
	t.Helper()
	p := read(kind, n, s)
	if p.out != want {
		t.Fatalf("the plain reading of %.300q is %v, not %v", s, p.out, want)
	}
	for _, pieces := range [][]string{{s}, {"", s, ""}, single(s)} {
		ends(t, fed(t, kind, n, p, pieces...), kind, want)
		if d := fed(t, kind, n, p, pieces...); want.over() {
			stays(t, d, want.done, want.e)
		}
	}
	for i := range len(s) + 1 {
		fed(t, kind, n, p, s[:i], "", s[i:])
		first := read(kind, n, s[:i])
		ends(t, fed(t, kind, n, first, s[:i]), kind, first.out)
	}
}

// thrice cuts a short text at every two places.
func thrice(t *testing.T, kind, n int, s string) {
	t.Helper()
	p := read(kind, n, s)
	for j := range len(s) + 1 {
		for i := range j + 1 {
			fed(t, kind, n, p, s[:i], s[i:j], s[j:])
		}
	}
}

func chunked(t *testing.T, s string, want outcome) {
	t.Helper()
	comes(t, Chunked, 0, s, want)
}

func whole(body string, used int) outcome { return outcome{body: body, used: used, done: true} }

func half(body string, used int) outcome { return outcome{body: body, used: used} }

func failure(body string, used int, e api.Errno) outcome {
	return outcome{body: body, used: used, e: e}
}

// fields makes a list of names and values that take turns, with fields in its spare room.
func fields(parts ...string) []api.Field {
	l := make([]api.Field, 0, len(parts)/2+2)
	for i := 0; i < len(parts); i += 2 {
		l = append(l, api.Field{Name: parts[i], Value: parts[i+1]})
	}
	spare := l[len(l):cap(l)]
	for i := range spare {
		spare[i] = api.Field{Name: "Content-Length", Value: "7"}
	}
	return l
}

// framed is what the fields of a message tell; where they tell nothing the kind is silent.
type framed struct {
	kind, n int
	e       api.Errno
}

const silent = -1

// says asks for the framing of a request, and of responses to several methods, that have these fields.
func says(t *testing.T, minor int, want framed, parts ...string) {
	t.Helper()
	l := fields(parts...)
	before := slices.Clone(l[:cap(l)])
	wantRequest, wantResponse := want, want
	if want.kind == silent {
		wantRequest.kind, wantResponse.kind = None, Close
	}
	kind, n, e := OfRequest(api.Request{Method: "GET", Target: "/", Minor: minor, Fields: l})
	if got := (framed{kind, n, e}); got != wantRequest {
		t.Errorf("OfRequest of minor %d and %q = %v, not %v", minor, parts, got, wantRequest)
	}
	for _, code := range []int{200, 201, 203, 205, 206, 303, 305, 404, 599, 600, 1304, math.MaxInt} {
		for _, method := range []string{"GET", "", "head", "Head", "HEAD ", " HEAD", "HEADS", "HEA", "CONNECT"} {
			kind, n, e := OfResponse(api.Response{Minor: minor, Code: code, Fields: l}, method)
			if got := (framed{kind, n, e}); got != wantResponse {
				t.Errorf("OfResponse of minor %d, code %d and %q to %q = %v, not %v", minor, code, parts, method, got, wantResponse)
			}
		}
	}
	for _, c := range []struct {
		code   int
		method string
	}{{200, "HEAD"}, {404, "HEAD"}, {204, "HEAD"}, {100, "HEAD"}, {204, "GET"}, {304, "GET"}, {304, ""}, {199, "GET"}, {101, "GET"}, {100, ""}, {99, "GET"}, {0, "GET"}, {-1, "GET"}, {-204, "GET"}, {math.MinInt, "GET"}} {
		kind, n, e := OfResponse(api.Response{Minor: minor, Code: c.code, Fields: l}, c.method)
		if got := (framed{kind, n, e}); got != (framed{}) {
			t.Errorf("OfResponse of minor %d, code %d and %q to %q = %v, not %v", minor, c.code, parts, c.method, got, framed{})
		}
	}
	if !slices.Equal(l[:cap(l)], before) {
		t.Errorf("%v became %v", before, l[:cap(l)])
	}
}

// P6.1, P6.2

func TestNoField(t *testing.T) {
	for _, minor := range []int{0, 1, 2, -1, math.MaxInt, math.MinInt} {
		says(t, minor, framed{kind: silent})
		says(t, minor, framed{kind: silent}, "Host", "h", "A", "1")
		says(t, minor, framed{kind: silent}, "Content-Lengths", "5", "Content_Length", "5", "Transfer-Encodings", "chunked", "TE", "chunked", "Length", "5")
		says(t, minor, framed{kind: silent}, "Connection", "Content-Length, Transfer-Encoding")
	}
}

func TestTransferEncoding(t *testing.T) {
	bad := framed{e: api.ErrLength}
	good := framed{kind: Chunked}
	for _, c := range []struct {
		want  framed
		parts []string
	}{
		{good, []string{"Transfer-Encoding", "chunked"}},
		{good, []string{"transfer-encoding", "CHUNKED"}},
		{good, []string{"TRANSFER-ENCODING", "Chunked"}},
		{good, []string{"A", "1", "Transfer-Encoding", " ,, chunked\t,", "B", "2"}},
		{good, []string{"Transfer-Encoding", "", "Transfer-Encoding", "chunked"}},
		{good, []string{"Transfer-Encoding", "chunked", "transfer-encoding", ","}},
		{bad, []string{"Transfer-Encoding", ""}},
		{bad, []string{"Transfer-Encoding", " , ,"}},
		{bad, []string{"Transfer-Encoding", "gzip"}},
		{bad, []string{"Transfer-Encoding", "identity"}},
		{bad, []string{"Transfer-Encoding", "gzip, chunked"}},
		{bad, []string{"Transfer-Encoding", "chunked, gzip"}},
		{bad, []string{"Transfer-Encoding", "chunked, identity"}},
		{bad, []string{"Transfer-Encoding", "chunked, chunked"}},
		{bad, []string{"Transfer-Encoding", "chunked", "Transfer-Encoding", "chunked"}},
		{bad, []string{"Transfer-Encoding", "chunked", "Transfer-Encoding", "gzip"}},
		{bad, []string{"Transfer-Encoding", "gzip", "Transfer-Encoding", "chunked"}},
		{bad, []string{"Transfer-Encoding", "chunke"}},
		{bad, []string{"Transfer-Encoding", "chunkeds"}},
		{bad, []string{"Transfer-Encoding", "chunked;q=1"}},
		{bad, []string{"Transfer-Encoding", "\"chunked\""}},
		{bad, []string{"Transfer-Encoding", "\"chunked"}},
		{bad, []string{"Transfer-Encoding", "chunked, \"a"}},
		{bad, []string{"Transfer-Encoding", "chunked, a b"}},
		{bad, []string{"Transfer-Encoding", "chun ked"}},
		{bad, []string{"Transfer-Encoding", "chunked\x00"}},
	} {
		says(t, 0, bad, c.parts...)
		for _, minor := range []int{1, 2, -1, math.MaxInt, math.MinInt} {
			says(t, minor, c.want, c.parts...)
		}
		for _, length := range []string{"5", "0", "", "x", "5, 6", "1048577", "\""} {
			says(t, 1, bad, append(slices.Clone(c.parts), "Content-Length", length)...)
			says(t, 1, bad, append([]string{"content-length", length}, c.parts...)...)
			says(t, 0, bad, append([]string{"CONTENT-LENGTH", length}, c.parts...)...)
		}
	}
}

func TestContentLength(t *testing.T) {
	bad, big := framed{e: api.ErrLength}, framed{e: api.ErrBig}
	for _, c := range []struct {
		want   framed
		values []string
	}{
		{framed{Length, 0, 0}, []string{"0"}},
		{framed{Length, 0, 0}, []string{"000"}},
		{framed{Length, 5, 0}, []string{"5"}},
		{framed{Length, 5, 0}, []string{"5, 5"}},
		{framed{Length, 5, 0}, []string{"5,5,5 ,\t5"}},
		{framed{Length, 5, 0}, []string{"5", "5"}},
		{framed{Length, 5, 0}, []string{"5", "5", "5, 5"}},
		{framed{Length, 5, 0}, []string{",5,,"}},
		{framed{Length, 5, 0}, []string{"5", ""}},
		{framed{Length, 5, 0}, []string{"", "5"}},
		{framed{Length, 5, 0}, []string{" 5\t"}},
		{framed{Length, 5, 0}, []string{"5, 05, 0000000000000000000000005"}},
		{framed{Length, mega - 1, 0}, []string{"1048575"}},
		{framed{Length, mega, 0}, []string{"1048576"}},
		{framed{Length, mega, 0}, []string{"1048576, 01048576"}},
		{big, []string{"1048577"}},
		{big, []string{"1048577, 1048577"}},
		{big, []string{"1048577", "1048577"}},
		{big, []string{"1099511627775"}},
		{big, []string{"1099511627776"}},
		{big, []string{"9223372036854775808"}},
		{big, []string{"18446744073709551621"}}, // 2^64 + 5
		{big, []string{strings.Repeat("9", 1000)}},
		{big, []string{"1099511627776, 1099511627777"}}, // at most MaxTime: both are
		{bad, []string{"1099511627775, 1099511627776"}},
		{bad, []string{"1048577, 1048578"}},
		{bad, []string{"1048577, 5"}},
		{bad, []string{"5, 1048577"}},
		{bad, []string{"1048577, x"}},
		{bad, []string{"1048577", "\"5"}},
		{bad, []string{"5, 6"}},
		{bad, []string{"5", "6"}},
		{bad, []string{"5, 5, 6"}},
		{bad, []string{"6, 5, 5"}},
		{bad, []string{"5, 6, 5"}},
		{bad, []string{"5", "5", "4"}},
		{bad, []string{"0, 1"}},
		{bad, []string{"1, 0"}},
		{bad, []string{""}},
		{bad, []string{"", ""}},
		{bad, []string{","}},
		{bad, []string{" , ,\t"}},
		{bad, []string{"x"}},
		{bad, []string{"-5"}},
		{bad, []string{"-0"}},
		{bad, []string{"+5"}},
		{bad, []string{"5x"}},
		{bad, []string{"0x5"}},
		{bad, []string{"5.0"}},
		{bad, []string{"5 5"}},
		{bad, []string{"5;5"}},
		{bad, []string{"1_0"}},
		{bad, []string{"5, x"}},
		{bad, []string{"x, 5"}},
		{bad, []string{"5", "x"}},
		{bad, []string{"\"5\""}},
		{bad, []string{"\"5"}},
		{bad, []string{"5, \"5"}},
		{bad, []string{"5", "\""}},
		{bad, []string{"\"5", "5\""}}, // one quoted text of both
		{bad, []string{"5\x00"}},
		{bad, []string{"\xb2"}},
	} {
		for _, name := range []string{"Content-Length", "content-length", "CONTENT-LENGTH"} {
			parts := []string{"Host", "h"}
			for i, v := range c.values {
				if i%2 == 1 {
					name = "Content-length"
				}
				parts = append(parts, name, v, "A", "9")
			}
			for _, minor := range []int{0, 1, 2, -1} {
				says(t, minor, c.want, parts...)
			}
		}
	}
}

// P6.3

func TestNew(t *testing.T) {
	numbers := []int{math.MinInt, -mega, -2, -1, 0, 1, 2, mega - 1, mega, mega + 1, 1 << 32, 1<<32 + 5, math.MaxInt}
	for _, kind := range []int{math.MinInt, -1, None, Length, Chunked, Close, 4, 5, 1 << 32, 1<<32 + 1, math.MaxInt} {
		for _, n := range numbers {
			want := api.OK
			switch {
			case kind < 0 || kind > 3 || n < 0 || n > 0 && kind != 1:
				want = api.ErrArg
			case n > mega:
				want = api.ErrBig
			}
			if d, e := New(kind, n); e != want || (d == nil) != (want != api.OK) {
				t.Errorf("New(%d, %d) = %v, %d, not %d", kind, n, d, e, want)
			}
		}
	}
	for i, kind := range []int{None, Length, Chunked, Close} {
		if kind != i {
			t.Errorf("kind %d is %d", i, kind)
		}
	}
}

func TestWholeAtOnce(t *testing.T) {
	for _, kind := range []int{None, Length} {
		for _, s := range []string{"", "x", "\n", "0\r\n\r\n", strings.Repeat("x", 2000)} {
			comes(t, kind, 0, s, whole("", 0))
		}
		stays(t, made(t, kind, 0), true, api.OK)
		if done, e := made(t, kind, 0).End(); !done || e != api.OK {
			t.Error(kind, done, e)
		}
	}
}

// P6.4: bodies of a length, and those that the end ends

func TestLength(t *testing.T) {
	for _, s := range []string{"a", "ab", "\n", "\r\n\r\n", "0\r\n\r\n", "\x00\xff\x80", "abcdefghij", strings.Repeat("a\r\n", 700)} {
		comes(t, Length, len(s), s, whole(s, len(s)))
		for _, more := range []string{"x", "\n", "\r\n", "GET / HTTP/1.1\r\n\r\n"} {
			comes(t, Length, len(s), s+more, whole(s, len(s)))
		}
		comes(t, Length, len(s)+1, s, half(s, len(s)))
		comes(t, Length, mega, s, half(s, len(s)))
	}
	comes(t, Length, 5, "", half("", 0))
	thrice(t, Length, 4, "abcdefg")
}

func TestClose(t *testing.T) {
	for _, s := range []string{"", "a", "\n", "\r\n\r\n", "0\r\n\r\n", "\x00\xff\x80", strings.Repeat("a\r\n", 700)} {
		comes(t, Close, 0, s, half(s, len(s)))
	}
	thrice(t, Close, 0, "abcdefg")
}

// pattern makes a text of so many bytes that tells its places apart.
func pattern(n int) string {
	b := make([]byte, n)
	for i := range b {
		b[i] = byte(i + i/256 + i/65536)
	}
	return string(b)
}

// sized cuts a text into pieces of a size.
func sized(s string, size int) []string {
	var l []string
	for ; s != ""; s = s[min(size, len(s)):] {
		l = append(l, s[:min(size, len(s))])
	}
	return l
}

// comesLong feeds a long text whole, byte by byte, in pieces of some sizes, and cut around some places.
func comesLong(t *testing.T, kind, n int, s string, want outcome, places ...int) {
	t.Helper()
	p := read(kind, n, s)
	if p.out != want {
		t.Fatalf("the plain reading is %.20q, %d, %v, %d", p.out.body, p.out.used, p.out.done, p.out.e)
	}
	for _, size := range []int{len(s), 1, 7, 1024, 4099, mega - 1, mega, mega + 1} {
		ends(t, fed(t, kind, n, p, sized(s, size)...), kind, want)
	}
	for _, place := range places {
		for i := max(0, place-2); i <= min(len(s), place+2); i++ {
			ends(t, fed(t, kind, n, p, s[:i], "", s[i:]), kind, want)
		}
	}
}

func TestMaxBody(t *testing.T) {
	t.Parallel()
	s := pattern(mega)
	comesLong(t, Length, mega, s, whole(s, mega), 0, 1000, mega/2, mega)
	comesLong(t, Length, mega, s+"xyz", whole(s, mega), mega)
	comesLong(t, Length, mega-1, s, whole(s[:mega-1], mega-1), mega)
	comesLong(t, Length, mega, s[1:], half(s[1:], mega-1), mega)
	comesLong(t, Close, 0, s, half(s, mega), 0, 1000, mega/2, mega)
	comesLong(t, Close, 0, s[1:], half(s[1:], mega-1), mega)
	comesLong(t, Close, 0, s+"x", failure(s, mega+1, api.ErrBig), 0, mega/2, mega)
	comesLong(t, Close, 0, s+"\n", failure(s, mega+1, api.ErrBig), mega)
	comesLong(t, Close, 0, s+"xyz", failure(s, mega+1, api.ErrBig), mega)
}

// P6.4: chunks

func TestChunked(t *testing.T) {
	for _, c := range []struct {
		s, body string
	}{
		{"3;x\r\nabc\r\n0\r\n\r\n", "abc"},
		{"3;x\nabc\n0\n\n", "abc"},
		{"3\r\nabc\n0\r\n\n", "abc"},
		{"3\nabc\r\n0\n\r\n", "abc"},
		{"0\r\n\r\n", ""},
		{"0\n\n", ""},
		{"00000000\r\n\r\n", ""},
		{"0 ;x\r\n\r\n", ""},
		{"1\r\na\r\n2\r\nbc\r\n1\r\nd\r\n0\r\n\r\n", "abcd"},
		{"a\r\nabcdefghij\r\nA\r\nklmnopqrst\r\n0\r\n\r\n", "abcdefghijklmnopqrst"},
		{"0000000b\r\n12345678901\r\n0B\r\n12345678901\r\n0\r\n\r\n", "1234567890112345678901"},
		{"00000003 \t \r\nabc\r\n0\t\r\n\r\n", "abc"},
		{"2\r\n\r\n\r\n0\r\n\r\n", "\r\n"},
		{"1\n\n\n1\n\r\n0\n\n", "\n\r"},
		{"5\r\n0\r\n\r\n\r\n0\r\n\r\n", "0\r\n\r\n"},
		{"4\r\n\x00\xff\x80\x7f\r\n0\r\n\r\n", "\x00\xff\x80\x7f"},
		{"1;\r\na\r\n0;\n\n", "a"},
		{"1 ;\r\na\r\n0\t ;\n\n", "a"},
		{"1;;;\"\r\na\r\n0;a=\"b;c\" ; d\n\n", "a"},
		{"1;a\rb\r\na\r\n0;\r\r\n\n", "a"}, // a 13 elsewhere than ahead of the 10 is any byte
		{"1 ;\t\v\f\x0e\x1f \x80\xff\r\na\r\n0\r\n\r\n", "a"},
		{"0\r\nA: 1\r\n\r\n", ""},
		{"0\nA:1\nb:\n\n", ""},
		{"3\r\nabc\r\n0\r\nA: 1\nB: \t\x80 2\r\nContent-Length: x\r\nA: 1\r\n\r\n", "abc"},
	} {
		chunked(t, c.s, whole(c.body, len(c.s)))
		thrice(t, Chunked, 0, c.s)
		for _, more := range []string{"x", "\r", "\n", "0\r\n\r\n", "GET / HTTP/1.1\r\n\r\n"} {
			chunked(t, c.s+more, whole(c.body, len(c.s)))
		}
	}
	big := pattern(0xabc)
	s := "aBc\r\n" + big + "\r\n0\r\n\r\n"
	chunked(t, s, whole(big, len(s)))
}

func TestChunkedNotWhole(t *testing.T) {
	for _, c := range []struct{ s, body string }{
		{"", ""}, {"\r", ""}, {"3", ""}, {"3\r", ""}, {"x", ""}, {"3;x", ""}, {"-3 no line, for it has not ended", ""},
		{"3\r\n", ""}, {"3\n", ""}, {"3\na", "a"}, {"3\nab", "ab"}, {"3\nabc", "abc"}, {"3\nabc\r", "abc"}, {"3\nabcx", "abc"},
		{"3\nabc\n", "abc"}, {"3\nabc\n0", "abc"}, {"3\nabc\n0\r\n", "abc"}, {"3\nabc\n0\r\n\r", "abc"}, {"3\nabc\n0\r\nA", "abc"}, {"3\nabc\n0\r\nA: 1\r\n", "abc"},
		{"0\r\n", ""}, {"0\n\r", ""}, {"0\n\r\r", ""}, {"0\nno field, but it has not ended", ""}, {"00000001\r\n", ""}, {"100000\r\nab", "ab"},
	} {
		chunked(t, c.s, half(c.body, len(c.s)))
	}
}

// ahead are beginnings of chunked bodies, up to a chunk's line, and their bodies.
var ahead = []struct{ s, body string }{{"", ""}, {"3;x\r\nabc\r\n", "abc"}, {"1\na\n2\nbc\n", "abc"}}

func TestWrongSize(t *testing.T) {
	for _, line := range []string{
		"", " ", "\t", ";", ";x", " ;x", "x", "g", "G", "3g", "g3", "3x", "0x3", "0X3", "x3", "-3", "+3", "-0", "3.", "1_0", "3,", "3=", "3:",
		" 3", "\t3", " 3;x", "3 3", "3 x", "3 \tx;", "3 x;y", "3\v", "3\f", "3\x00", "3\x7f", "3\x80", "\xff", "3\xc2\xa0",
		"000000003", "000000000", "123456789", "fffffffff", "000000003;x", "000000000000000000000003", "00000003 0",
		"3;\x00", "3;\x01", "3;\x08", "3;x\x08y", "3;\x7f", "3;x\x7f", "3; \x00;", "3\x00;x", "3x;", "0;\x00", "0\x00", "0 0",
		"\r", "3\r\r", "\r3", "3\r ", "3 \r\r", "\r;", "3\r;x",
	} {
		for _, a := range ahead {
			for _, end := range []string{"\n", "\r\n"} {
				s := a.s + line + end
				chunked(t, s, failure(a.body, len(s), api.ErrLength))
				chunked(t, s+"abc\r\n0\r\n\r\n", failure(a.body, len(s), api.ErrLength))
			}
		}
	}
}

func TestWrongGap(t *testing.T) {
	for _, gap := range []string{"x", "d", " ", "\t", "0", "\r\r", "\rx", "x\r", "\x00", "A: 1", "abc"} {
		for _, end := range []string{"\n", "\r\n"} {
			s := "3\r\nabc" + gap + end
			chunked(t, s, failure("abc", len(s), api.ErrLength))
			chunked(t, s+"0\r\n\r\n", failure("abc", len(s), api.ErrLength))
			s = "1\na\n2\nbc" + gap + end
			chunked(t, s+"\n", failure("abc", len(s), api.ErrLength))
		}
	}
}

func TestWrongTrailer(t *testing.T) {
	for _, line := range []string{"A", "0", "A 1", ":", ": 1", "A : 1", " A: 1", "\tA: 1", " ", "\t", "A\x80: 1", "A: \x00", "A: 1\x7f", "\rA: 1", "A\r: 1", "A:\r1", "A: 1\r2", "A: 1\r\r", "\r\r", "\x00"} {
		for _, a := range ahead {
			for _, first := range []string{"0\r\n", "0;x\nA: 1\n", "00\nB: 2\r\nA: 1\n"} {
				for _, end := range []string{"\n", "\r\n"} {
					s := a.s + first + line + end
					want := failure(a.body, len(s), api.ErrField)
					chunked(t, s, want)
					chunked(t, s+"\r\n", want)
				}
			}
		}
	}
}

// P6.4: how long lines of chunks may be

func TestLongLines(t *testing.T) {
	t.Parallel()
	for _, c := range []struct {
		ahead, begin, fill, behind string
		body                       string // with what stands behind
		e                          api.Errno
	}{
		{"", "3;", "x", "abc\r\n0\r\n\r\n", "abc", api.OK},
		{"", "00000003", " ", "abc\r\n0\r\n\r\n", "abc", api.OK},
		{"1\r\na\r\n", "2\t;", "\x80", "bc\n0\n\n", "abc", api.OK},
		{"1\r\na\r\n", "0;", ";", "\r\n", "a", api.OK},
		{"2\nbc\n0\n", "A: ", "v", "B: 1\n\n", "bc", api.OK},
		{"0\nB: 1\r\n", "A:", " ", "\n", "", api.OK},
		{"", "", "0", "", "", api.ErrLength},
		{"", "", "\r", "", "", api.ErrLength},
		{"3\nabc", "", "\r", "", "abc", api.ErrLength},
		{"3\nabc", "", "x", "", "abc", api.ErrLength},
		{"0\n", "", "x", "", "", api.ErrField},
		{"0\n", "", "\r", "", "", api.ErrField},
	} {
		line := func(size int, end string) string {
			return c.begin + strings.Repeat(c.fill, size-len(c.begin+end)) + end
		}
		body := read(Chunked, 0, c.ahead).out.body
		for _, size := range []int{1000, 1024, 1025} {
			for _, end := range []string{"\n", "\r\n"} {
				s := c.ahead + line(size, end)
				want := whole(c.body, len(s+c.behind))
				if c.e != api.OK {
					want = failure(c.body, len(s), c.e)
				}
				chunked(t, s+c.behind, want)
			}
		}
		for _, end := range []string{"\n", "\r\n", "", "\r"} {
			for _, more := range []string{"", "x", "\n", "\r\n\r\n"} {
				s := c.ahead + line(1026, end) + more
				chunked(t, s, failure(body, len(c.ahead)+1026, api.ErrBig))
			}
			s := c.ahead + line(1027, end)
			chunked(t, s, failure(body, len(c.ahead)+1026, api.ErrBig))
			s = c.ahead + line(3000, end)
			chunked(t, s, failure(body, len(c.ahead)+1026, api.ErrBig))
		}
		s := c.ahead + line(1025, "")
		chunked(t, s, half(body, len(s)))
		s = c.ahead + line(1025, "\r")
		chunked(t, s, half(body, len(s)))
	}
}

// Lines of fields have no number of their own that they may not pass.
func TestManyTrailers(t *testing.T) {
	s := "0\r\n" + strings.Repeat("A: 1\r\n", 300) + "\r\n"
	chunked(t, s, whole("", len(s)))
	s = "0\r\n" + strings.Repeat("A: "+strings.Repeat("v", 1000)+"\r\n", 20) + "\r\n"
	p := read(Chunked, 0, s)
	if p.out != whole("", len(s)) {
		t.Fatal(p.out)
	}
	fed(t, Chunked, 0, p, s)
	fed(t, Chunked, 0, p, single(s)...)
}

// P6.4: chunks up to MaxBody, and beyond

func TestChunkBeyondMaxBody(t *testing.T) {
	for _, number := range []string{"100001", "00100001", "100001 ;x", "7fffffff", "80000000", "fffffffe", "FFFFFFFF", "ffffffff;", "200000", "1000000"} {
		for _, end := range []string{"\n", "\r\n"} {
			chunked(t, number+end, failure("", len(number+end), api.ErrBig))
			chunked(t, number+end+"abc", failure("", len(number+end), api.ErrBig))
			s := "3\nabc\n" + number + end
			chunked(t, s+"x", failure("abc", len(s), api.ErrBig))
		}
	}
	for _, number := range []string{"100001x", "ffffffff x", "100001;\x00", "100000000"} { // no chunk's line at all
		chunked(t, number+"\n", failure("", len(number)+1, api.ErrLength))
	}
	for _, number := range []string{"100000", "0fffff", "fffff"} { // the first bytes of a chunk that is not too great
		chunked(t, number+"\nabc", half("abc", len(number)+4))
	}
	for _, c := range []struct {
		number string
		e      api.Errno
	}{{"ffffd", api.OK}, {"ffffe", api.ErrBig}, {"fffff", api.ErrBig}, {"100000", api.ErrBig}} {
		s := "2\nab\n1\nc\n" + c.number + "\r\n"
		chunked(t, s, outcome{body: "abc", used: len(s), e: c.e})
	}
}

func TestChunksOfMaxBody(t *testing.T) {
	t.Parallel()
	all := pattern(mega)
	one := "100000\r\n" + all + "\r\n"
	two := "3\r\n" + all[:3] + "\r\nffffd\r\n" + all[3:] + "\r\n"
	half := "80000\n" + all[:mega/2] + "\n80000;x\n" + all[mega/2:] + "\n"
	for _, s := range []string{one, two, half} {
		comesLong(t, Chunked, 0, s, outcome{body: all, used: len(s)}, 8, mega/2+16, len(s))
		last := s + "0\r\nA: 1\r\n\r\n"
		comesLong(t, Chunked, 0, last+"x", whole(all, len(last)), len(s), len(last))
		more := s + "1\r\n"
		comesLong(t, Chunked, 0, more+"a\r\n0\r\n\r\n", failure(all, len(more), api.ErrBig), len(s), len(more))
		more = s + "1x\n"
		comesLong(t, Chunked, 0, more+"a\r\n", failure(all, len(more), api.ErrLength), len(more))
		more = s + "FFFFFFFF\n"
		comesLong(t, Chunked, 0, more+"a\r\n", failure(all, len(more), api.ErrBig), len(more))
	}
	less := "fffff\r\n" + all[1:] + "\r\n1\r\n"
	comesLong(t, Chunked, 0, less+"a\r\n0\n\n", whole(all[1:]+"a", len(less)+6), len(less))
	comesLong(t, Chunked, 0, less[:len(less)-3]+"2\n", failure(all[1:], len(less)-1, api.ErrBig), len(less)-3)
}

// P6.4: End

func TestNothingFed(t *testing.T) {
	for kind, n := range map[int]int{None: 0, Length: 5, Chunked: 0, Close: 0} {
		d := made(t, kind, n)
		for _, b := range [][]byte{nil, {}, nil} {
			out, used, done, e := d.Feed(b)
			if len(out) != 0 || used != 0 || done != (kind == None) || e != api.OK {
				t.Errorf("Feed of nothing, kind %d = %q, %d, %v, %d", kind, out, used, done, e)
			}
		}
		ends(t, d, kind, outcome{done: kind == None})
		ends(t, made(t, kind, n), kind, outcome{done: kind == None})
	}
}

func TestEnd(t *testing.T) {
	for _, c := range []struct {
		kind, n int
		s       string
		done    bool
		e       api.Errno
	}{
		{Length, 3, "", false, api.ErrLost},
		{Length, 3, "ab", false, api.ErrLost},
		{Length, 3, "abc", true, api.OK},
		{Length, 3, "abcd", true, api.OK},
		{Close, 0, "", true, api.OK},
		{Close, 0, "ab", true, api.OK},
		{Chunked, 0, "", false, api.ErrLost},
		{Chunked, 0, "1", false, api.ErrLost},
		{Chunked, 0, "1\r\n", false, api.ErrLost},
		{Chunked, 0, "1\r\na", false, api.ErrLost},
		{Chunked, 0, "1\r\na\r\n", false, api.ErrLost},
		{Chunked, 0, "0\r\n", false, api.ErrLost},
		{Chunked, 0, "0\r\nA: 1\r\n", false, api.ErrLost},
		{Chunked, 0, "0\r\n\r", false, api.ErrLost},
		{Chunked, 0, "0\r\n\r\n", true, api.OK},
		{Chunked, 0, "x\n", false, api.ErrLength},
		{Chunked, 0, "100001\n", false, api.ErrBig},
		{Chunked, 0, "0\nA\n", false, api.ErrField},
	} {
		d := made(t, c.kind, c.n)
		d.Feed([]byte(c.s))
		for range 3 {
			if done, e := d.End(); done != c.done || e != c.e {
				t.Errorf("End behind %q = %v, %d, not %v, %d", c.s, done, e, c.done, c.e)
			}
		}
		stays(t, d, c.done, c.e)
	}
	d := made(t, Close, 0)
	d.Feed(make([]byte, mega))
	if done, e := d.End(); !done || e != api.OK {
		t.Error(done, e)
	}
	stays(t, d, true, api.OK)
	d = made(t, Close, 0)
	d.Feed(make([]byte, mega+5))
	ends(t, d, Close, failure("", 0, api.ErrBig))
}

// Rule 1

func TestNil(t *testing.T) {
	for _, d := range []*Decoder{nil, {}, new(Decoder)} {
		for _, s := range []string{"", "\n", "abc", "0\r\n\r\n", strings.Repeat("x", 2000)} {
			if out, used, done, e := d.Feed([]byte(s)); len(out) != 0 || used != 0 || done || e != api.ErrNil {
				t.Errorf("Feed(%.30q) of none = %q, %d, %v, %d", s, out, used, done, e)
			}
			if done, e := d.End(); done || e != api.ErrNil {
				t.Errorf("End of none = %v, %d", done, e)
			}
		}
	}
}

// P6.5

func TestChunk(t *testing.T) {
	for _, c := range []struct{ s, want string }{
		{"", ""},
		{"a", "1\r\na\r\n"},
		{"\n", "1\r\n\n\r\n"},
		{"abc", "3\r\nabc\r\n"},
		{"abcdefghi", "9\r\nabcdefghi\r\n"},
		{"abcdefghij", "a\r\nabcdefghij\r\n"},
		{"0123456789abcde", "f\r\n0123456789abcde\r\n"},
		{"0123456789abcdef", "10\r\n0123456789abcdef\r\n"},
		{pattern(0xff), "ff\r\n" + pattern(0xff) + "\r\n"},
		{pattern(0x100), "100\r\n" + pattern(0x100) + "\r\n"},
		{pattern(0xabcd), "abcd\r\n" + pattern(0xabcd) + "\r\n"},
		{pattern(mega), "100000\r\n" + pattern(mega) + "\r\n"},
		{pattern(2*mega + 10), "20000a\r\n" + pattern(2*mega+10) + "\r\n"}, // what may be a body is its reader's to say
	} {
		room := append([]byte(c.s), behind...)
		got := Chunk(room[:len(c.s)])
		if string(got) != c.want || string(room) != c.s+behind {
			t.Errorf("Chunk(%.30q) = %.40q, and %.30q", c.s, got, room)
		}
		clear(room)
		if string(got) != c.want {
			t.Errorf("Chunk(%.30q) shares what it was given", c.s)
		}
		clear(got[:cap(got)])
		if !bytes.Equal(room, make([]byte, len(room))) {
			t.Errorf("Chunk(%.30q) writes what it was given", c.s)
		}
	}
	if got := Chunk(nil); len(got) != 0 {
		t.Errorf("Chunk(nil) = %q", got)
	}
}

func TestLast(t *testing.T) {
	for range 2 {
		got := Last()
		if string(got) != "0\r\n\r\n" {
			t.Errorf("Last() = %q", got)
		}
		clear(got[:cap(got)])
	}
}

// P6.6

// chunks tells pieces as chunks, with the last one behind.
func chunks(pieces []string) string {
	var b []byte
	for _, p := range pieces {
		b = append(b, Chunk([]byte(p))...)
	}
	return string(append(b, Last()...))
}

func TestChunksAreRead(t *testing.T) {
	for _, pieces := range [][]string{nil, {""}, {"", ""}, {"a"}, {"", "a", ""}, {"ab", "c", "", "def"}, {"\r\n", "\n", "\r"}, {"0\r\n\r\n"}, {"5", "\r\n", "0"}, {strings.Repeat("x", 300), "y", strings.Repeat("z", 17)}} {
		s, body := chunks(pieces), strings.Join(pieces, "")
		chunked(t, s, whole(body, len(s)))
		chunked(t, s+"1\r\na\r\n", whole(body, len(s)))
	}
	all := pattern(3000)
	for size := 1; size <= 3001; size += 1 + size/3 {
		s := chunks(sized(all, size))
		p := read(Chunked, 0, s)
		if p.out != whole(all, len(s)) {
			t.Fatal(p.out)
		}
		for _, cut := range []int{1, 2, 3, 7, 64, 1000, len(s)} {
			fed(t, Chunked, 0, p, sized(s, cut)...)
		}
	}
}

func TestChunksOfMaxBodyAreRead(t *testing.T) {
	t.Parallel()
	all := pattern(mega)
	for _, size := range []int{1, 1000, 65536, mega - 1, mega} {
		s := chunks(sized(all, size))
		p := read(Chunked, 0, s)
		if p.out != whole(all, len(s)) {
			t.Fatal(size, p.out.used, p.out.done, p.out.e)
		}
		for _, cut := range []int{1, 4096, len(s)} {
			fed(t, Chunked, 0, p, sized(s, cut)...)
		}
	}
}

func TestEveryShortBody(t *testing.T) {
	trial.Texts([]string{"\r", "\n", "0", "2", ";", " "}, 6, func(s string) {
		p := read(Chunked, 0, s)
		fed(t, Chunked, 0, p, s)
		fed(t, Chunked, 0, p, single(s)...)
	})
	trial.Texts([]string{"\r\n", "\n", "\r", "0\r\n", "1\nx", "2", "a:", "\x00"}, 4, func(s string) {
		chunked(t, s, read(Chunked, 0, s).out)
		chunked(t, "1\nx"+s, read(Chunked, 0, "1\nx"+s).out)
	})
}

func TestChangedBytes(t *testing.T) {
	see := func(s string) {
		p := read(Chunked, 0, s)
		fed(t, Chunked, 0, p, s)
		fed(t, Chunked, 0, p, single(s)...)
	}
	for _, s := range []string{"2 ;x\r\nab\r\n01\nc\n0\r\nA: 1\r\n\r\n", "0000000a\t;\n0123456789\r\n0\n\n"} {
		for i := range len(s) + 1 {
			for c := range 256 {
				one := string([]byte{byte(c)})
				see(s[:i] + one + s[i:])
				if i < len(s) {
					see(s[:i] + one + s[i+1:])
				}
			}
			if i < len(s) {
				see(s[:i] + s[i+1:])
			}
		}
	}
}

// A decoder's pieces may be of any sizes.
func TestPiecesOfEverySize(t *testing.T) {
	s := chunks([]string{pattern(300), "a", pattern(33)}) + "1\r\n"
	s = "5 ;x=\"y\"\nhello\n" + s
	p := read(Chunked, 0, s)
	if p.out != whole("hello"+pattern(300)+"a"+pattern(33), len(s)-3) {
		t.Fatal(p.out)
	}
	for size := 1; size <= len(s)+1; size++ {
		fed(t, Chunked, 0, p, sized(s, size)...)
	}
}

// Decoders know nothing of one another.
func TestTwoDecoders(t *testing.T) {
	one, other, third := made(t, Chunked, 0), made(t, Chunked, 0), made(t, Length, 3)
	one.Feed([]byte("3;"))
	other.Feed([]byte("x\n"))
	third.Feed([]byte("a"))
	if out, used, done, e := one.Feed([]byte("\nabc\n0\n\n")); string(out) != "abc" || used != 8 || !done || e != api.OK {
		t.Errorf("%q, %d, %v, %d", out, used, done, e)
	}
	if out, used, done, e := third.Feed([]byte("bcd")); string(out) != "bc" || used != 2 || !done || e != api.OK {
		t.Errorf("%q, %d, %v, %d", out, used, done, e)
	}
	stays(t, one, true, api.OK)
	stays(t, other, false, api.ErrLength)
	stays(t, third, true, api.OK)
}
