package message

import (
	"bytes"
	"fmt"
	"math"
	"regexp"
	"slices"
	"strconv"
	"strings"
	"testing"

	"gatepost/api"
	"gatepost/framing"
	"gatepost/head"
	"gatepost/trial"
)

const mega = 1 << 20 // MaxBody

// behind is what lies in the spare room of bytes that are handed in.
const behind = "A: 1\r\n\r\n\n0\r\n\r\n"

// roomy makes bytes that have spare room with something in it.
func roomy(s string) []byte {
	return append(append(make([]byte, 0, len(s)+len(behind)), s...), behind...)[:len(s)]
}

// spareFields is what lies in the spare room of fields that are handed in.
var spareFields = []api.Field{{Name: "Spare", Value: "room"}, {Name: "Content-Length", Value: "7"}}

// fields makes a list of names and values that take turns, with fields in its spare room.
func fields(parts ...string) []api.Field {
	l := make([]api.Field, 0, len(parts)/2+len(spareFields))
	for i := 0; i < len(parts); i += 2 {
		l = append(l, api.Field{Name: parts[i], Value: parts[i+1]})
	}
	return append(l, spareFields...)[:len(l)]
}

// many makes a list of so many fields.
func many(n int) []api.Field {
	var parts []string
	for i := range n {
		parts = append(parts, "F"+strconv.Itoa(i%7), strconv.Itoa(i))
	}
	return fields(parts...)
}

// overwrite writes over all that a list has, its spare room too.
func overwrite(l []api.Field) {
	l = l[:cap(l)]
	for i := range l {
		l[i] = api.Field{Name: "Written", Value: "over"}
	}
}

func isOverwritten(l []api.Field) bool {
	return !slices.ContainsFunc(l[:cap(l)], func(f api.Field) bool { return f.Name != "Written" })
}

func isZero(b []byte) bool { return bytes.Equal(b[:cap(b)], make([]byte, cap(b))) }

// fill writes over all that bytes have, their spare room too.
func fill(b []byte) {
	b = b[:cap(b)]
	for i := range b {
		b[i] = 'w'
	}
}

func get(parts ...string) api.Request {
	return api.Request{Method: "GET", Target: "/", Minor: 1, Fields: fields(parts...)}
}

func ok(parts ...string) api.Response {
	return api.Response{Minor: 1, Code: 200, Reason: "OK", Fields: fields(parts...)}
}

func of(code int, parts ...string) api.Response {
	r := ok(parts...)
	r.Code = code
	return r
}

// A head as a text, to be compared: a list without an element is one, be it nil or empty.
func requestText(r api.Request) string {
	return fmt.Sprintf("%q %q %d %q", r.Method, r.Target, r.Minor, r.Fields)
}

func responseText(r api.Response) string {
	return fmt.Sprintf("%d %d %q %q", r.Minor, r.Code, r.Reason, r.Fields)
}

// outcome is what reading comes to.
type outcome struct {
	head, body string
	used       int
	e          api.Errno
}

func (o outcome) String() string {
	return fmt.Sprintf("%.300s, %.300q, %d, %d", o.head, o.body, o.used, o.e)
}

func failure(response bool, e api.Errno) outcome {
	if response {
		return outcome{head: responseText(api.Response{}), e: e}
	}
	return outcome{head: requestText(api.Request{}), e: e}
}

// told looks whether what was handed in reads as before, writes it over, and then writes over what was told:
// neither may be seen in the other.
func told(t *testing.T, s string, in, body []byte, l []api.Field, show func() string) {
	t.Helper()
	if string(in[:cap(in)]) != s+behind {
		t.Fatalf("%.300q became %.300q", s+behind, in[:cap(in)])
	}
	before := show()
	clear(in[:cap(in)])
	if after := show(); after != before {
		t.Fatalf("%.300s became %.300s", before, after)
	}
	fill(body)
	overwrite(l)
	if !isZero(in) {
		t.Fatalf("what is told of %.300q shares its bytes", s)
	}
}

func readRequest(t *testing.T, s string) outcome {
	t.Helper()
	in := roomy(s)
	r, body, used, e := ReadRequest(in)
	o := outcome{requestText(r), string(body), used, e}
	told(t, s, in, body, r.Fields, func() string { return requestText(r) + string(body) })
	return o
}

func readResponse(t *testing.T, s, method string, end bool) outcome {
	t.Helper()
	in := roomy(s)
	r, body, used, e := ReadResponse(in, method, end)
	o := outcome{responseText(r), string(body), used, e}
	told(t, s, in, body, r.Fields, func() string { return responseText(r) + string(body) })
	return o
}

// given looks whether what is handed in to a call that writes reads as before, writes it over, and then writes over what was told.
func given(t *testing.T, body string, l []api.Field, call func(in []byte) ([]byte, api.Errno)) (string, api.Errno) {
	t.Helper()
	in, before := roomy(body), slices.Clone(l[:cap(l)])
	out, e := call(in)
	if string(in[:cap(in)]) != body+behind || !slices.Equal(l[:cap(l)], before) {
		t.Fatalf("%.300q, %.300q became %.300q, %.300q", before, body+behind, l[:cap(l)], in[:cap(in)])
	}
	s := string(out)
	clear(in[:cap(in)])
	overwrite(l)
	if string(out) != s {
		t.Fatalf("%.300q became %.300q", s, out)
	}
	fill(out)
	if !isZero(in) || !isOverwritten(l) {
		t.Fatalf("%.300q shares what was handed in", s)
	}
	copy(l[:cap(l)], before)
	if e != api.OK && len(out) != 0 {
		t.Fatalf("%.300q is told beside %d", s, e)
	}
	return s, e
}

// writesRequest writes a request, holds what is told against what is wanted, and reads that.
func writesRequest(t *testing.T, r api.Request, body, want string, wantE api.Errno) {
	t.Helper()
	got, e := given(t, body, r.Fields, func(in []byte) ([]byte, api.Errno) { return WriteRequest(r, in) })
	if got != want || e != wantE {
		t.Fatalf("WriteRequest(%.300s, %.30q) = %.300q, %d, not %.300q, %d", requestText(r), body, got, e, want, wantE)
	}
	if wantE != api.OK {
		return
	}
	again := r
	again.Fields = unlengthy(r.Fields)
	if body != "" {
		again.Fields = append(again.Fields, api.Field{Name: "Content-Length", Value: strconv.Itoa(len(body))})
	}
	for _, more := range []string{"", "\r\n", "x", "GET / HTTP/1.1\r\n\r\n"} {
		wantRead := outcome{requestText(again), body, len(got), api.OK}
		if o := readRequest(t, got+more); o != wantRead {
			t.Fatalf("ReadRequest(%.300q) = %v, not %v", got+more, o, wantRead)
		}
	}
}

// writesResponse does likewise with a response; bodied: it is one that may have a body.
func writesResponse(t *testing.T, r api.Response, body, method string, bodied bool, want string, wantE api.Errno) {
	t.Helper()
	got, e := given(t, body, r.Fields, func(in []byte) ([]byte, api.Errno) { return WriteResponse(r, in, method) })
	if got != want || e != wantE {
		t.Fatalf("WriteResponse(%.300s, %.30q, %q) = %.300q, %d, not %.300q, %d", responseText(r), body, method, got, e, want, wantE)
	}
	if wantE != api.OK {
		return
	}
	again := r
	if bodied {
		again.Fields = append(unlengthy(r.Fields), api.Field{Name: "Content-Length", Value: strconv.Itoa(len(body))})
	} else {
		body = ""
	}
	for _, more := range []string{"", "\r\n", "x", "HTTP/1.1 200 OK\r\n\r\n"} {
		for _, end := range []bool{false, true} {
			wantRead := outcome{responseText(again), body, len(got), api.OK}
			if o := readResponse(t, got+more, method, end); o != wantRead {
				t.Fatalf("ReadResponse(%.300q, %q, %v) = %v, not %v", got+more, method, end, o, wantRead)
			}
		}
	}
}

// unlengthy tells the fields that do not tell a body's length.
func unlengthy(l []api.Field) []api.Field {
	return slices.DeleteFunc(slices.Clone(l), func(f api.Field) bool {
		return trial.Small(f.Name) == "content-length" || trial.Small(f.Name) == "transfer-encoding"
	})
}

// Forms as patterns, which these tests hold the package against.
var (
	tokenForm  = regexp.MustCompile("^[!#$%&'*+.^_`|~0-9A-Za-z-]+$")
	targetForm = regexp.MustCompile(`^[!-~]+$`)
	reasonForm = regexp.MustCompile(`^[\t\x20-\x7e\x{80}-\x{ff}]*$`)
	valueForm  = regexp.MustCompile(`^(?:[\x21-\x7e\x{80}-\x{ff}](?:[\t\x20-\x7e\x{80}-\x{ff}]*[\x21-\x7e\x{80}-\x{ff}])?)?$`)
)

// wide makes a text of bytes one of characters, a byte each, so that a pattern sees bytes.
func wide(s string) string {
	r := make([]rune, len(s))
	for i := range len(s) {
		r[i] = rune(s[i])
	}
	return string(r)
}

// plainWrite is the plain way to write what stands behind a first line; counted: with the body's length.
func plainWrite(first string, well bool, l []api.Field, body string, counted bool) (string, api.Errno) {
	if !well {
		return "", api.ErrArg
	}
	if len(first) > 1024 {
		return "", api.ErrBig
	}
	lines := []string{first}
	for _, f := range l {
		if !tokenForm.MatchString(f.Name) || !valueForm.MatchString(wide(f.Value)) {
			return "", api.ErrField
		}
		lines = append(lines, f.Name+": "+f.Value)
	}
	if counted {
		lines = append(lines, fmt.Sprintf("Content-Length: %d", len(body)))
	}
	text := strings.Join(lines, "\r\n") + "\r\n\r\n"
	if len(body) > mega || len(l) > 63 || len(text) > 8192 {
		return "", api.ErrBig
	}
	return text + body, api.OK
}

func isMinor(minor int) bool { return minor == 0 || minor == 1 }

func plainRequest(r api.Request, body string) (string, api.Errno) {
	well := tokenForm.MatchString(r.Method) && targetForm.MatchString(r.Target) && isMinor(r.Minor)
	first := fmt.Sprintf("%s %s HTTP/1.%d", r.Method, r.Target, r.Minor)
	return plainWrite(first, well, unlengthy(r.Fields), body, body != "")
}

func isBodied(code int, method string) bool {
	return method != "HEAD" && code >= 200 && code != 204 && code != 304
}

func plainResponse(r api.Response, body, method string) (string, api.Errno) {
	well := isMinor(r.Minor) && 100 <= r.Code && r.Code <= 599 && reasonForm.MatchString(wide(r.Reason))
	first := fmt.Sprintf("HTTP/1.%d %d %s", r.Minor, r.Code, r.Reason)
	if !isBodied(r.Code, method) {
		return plainWrite(first, well, r.Fields, "", false)
	}
	return plainWrite(first, well, unlengthy(r.Fields), body, true)
}

// requestByPlain and responseByPlain hold what is written against the plain way.
func requestByPlain(t *testing.T, r api.Request, body string, wantE api.Errno) {
	t.Helper()
	want, e := plainRequest(r, body)
	if e != wantE {
		t.Fatalf("the plain way to write %.300s, %.30q is %d, not %d", requestText(r), body, e, wantE)
	}
	writesRequest(t, r, body, want, e)
}

func responseByPlain(t *testing.T, r api.Response, body, method string, wantE api.Errno) {
	t.Helper()
	want, e := plainResponse(r, body, method)
	if e != wantE {
		t.Fatalf("the plain way to write %.300s, %.30q, %q is %d, not %d", responseText(r), body, method, e, wantE)
	}
	writesResponse(t, r, body, method, isBodied(r.Code, method), want, e)
}

// P7.1

func TestWriteRequest(t *testing.T) {
	post := api.Request{Method: "POST", Target: "http://h/?a"}
	for _, c := range []struct {
		r          api.Request
		body, want string
	}{
		{api.Request{Method: "GET", Target: "/", Minor: 1}, "", "GET / HTTP/1.1\r\n\r\n"},
		{get(), "", "GET / HTTP/1.1\r\n\r\n"},
		{post, "", "POST http://h/?a HTTP/1.0\r\n\r\n"},
		{post, "a", "POST http://h/?a HTTP/1.0\r\nContent-Length: 1\r\n\r\na"},
		{get(), "\r\n", "GET / HTTP/1.1\r\nContent-Length: 2\r\n\r\n\r\n"},
		{get(), "0123456789\x00\xff", "GET / HTTP/1.1\r\nContent-Length: 12\r\n\r\n0123456789\x00\xff"},
		{get("Host", "h"), "", "GET / HTTP/1.1\r\nHost: h\r\n\r\n"},
		{get("b", "1", "A", "3", "a", "3", "B", "", "b", "2"), "x", "GET / HTTP/1.1\r\nb: 1\r\nA: 3\r\na: 3\r\nB: \r\nb: 2\r\nContent-Length: 1\r\n\r\nx"},
		{get("A", "b \t c:\"d \x80\xff"), "", "GET / HTTP/1.1\r\nA: b \t c:\"d \x80\xff\r\n\r\n"},
		{get("Content-Length", "5"), "", "GET / HTTP/1.1\r\n\r\n"},
		{get("Content-Length", "0"), "", "GET / HTTP/1.1\r\n\r\n"},
		{get("Content-Length", "5"), "abc", "GET / HTTP/1.1\r\nContent-Length: 3\r\n\r\nabc"},
		{get("Transfer-Encoding", "chunked"), "", "GET / HTTP/1.1\r\n\r\n"},
		{get("Transfer-Encoding", "chunked"), "abc", "GET / HTTP/1.1\r\nContent-Length: 3\r\n\r\nabc"},
		{get("A", "1", "content-length", "1", "B", "2", "TRANSFER-ENCODING", "x", "CONTENT-LENGTH", "", "C", "3", "tRANSFER-eNCODING", ""), "ab", "GET / HTTP/1.1\r\nA: 1\r\nB: 2\r\nC: 3\r\nContent-Length: 2\r\n\r\nab"},
		{get("Connection", "close, A", "A", "1", "TE", "x", "Trailer", "B", "Keep-Alive", "5"), "", "GET / HTTP/1.1\r\nConnection: close, A\r\nA: 1\r\nTE: x\r\nTrailer: B\r\nKeep-Alive: 5\r\n\r\n"},
		{get("Content-Lengths", "5", "XContent-Length", "6", "Content_Length", "7", "Transfer-Encodings", "8", "Transfer", "9"), "", "GET / HTTP/1.1\r\nContent-Lengths: 5\r\nXContent-Length: 6\r\nContent_Length: 7\r\nTransfer-Encodings: 8\r\nTransfer: 9\r\n\r\n"},
	} {
		writesRequest(t, c.r, c.body, c.want, api.OK)
		requestByPlain(t, c.r, c.body, api.OK)
	}
	if b, e := WriteRequest(get(), nil); string(b) != "GET / HTTP/1.1\r\n\r\n" || e != api.OK {
		t.Errorf("%q, %d", b, e)
	}
}

// wrong makes fields and a body that are refused wherever the first line is none: a field without a line, and too much of all.
func wrong() ([]api.Field, string) {
	return append(many(70), api.Field{Name: "A B", Value: strings.Repeat("v", 9000)}), strings.Repeat("x", mega+1)
}

func TestWriteRequestLine(t *testing.T) {
	long := strings.Repeat("a", 1024)
	for _, c := range []struct {
		method, target string
		minor          int
		e              api.Errno
	}{
		{"", "/", 1, api.ErrArg},
		{"G T", "/", 1, api.ErrArg},
		{"GET\x80", "/", 1, api.ErrArg},
		{"GET\r\n", "/", 1, api.ErrArg},
		{"GET", "", 1, api.ErrArg},
		{"GET", "/ a", 1, api.ErrArg},
		{"GET", "/\x7f", 1, api.ErrArg},
		{"GET", "/\x80", 1, api.ErrArg},
		{"GET", "/", 2, api.ErrArg},
		{"GET", "/", -1, api.ErrArg},
		{"GET", "/", math.MaxInt, api.ErrArg},
		{"GET", "/", math.MinInt, api.ErrArg},
		{"", long, 1, api.ErrArg},
		{"GET", "/" + long, 2, api.ErrArg},
		{"GET", "/" + long, 1, api.ErrBig},
		{"GET", long[:1012], 1, api.ErrBig},
		{long, "/", 0, api.ErrBig},
	} {
		l, body := wrong()
		r := api.Request{Method: c.method, Target: c.target, Minor: c.minor}
		requestByPlain(t, r, "", c.e)
		requestByPlain(t, r, "abc", c.e)
		requestByPlain(t, r, body, c.e)
		r.Fields = l
		requestByPlain(t, r, "", c.e)
		requestByPlain(t, r, body, c.e)
	}
	r := get("A", "1")
	r.Target = long[:1011]
	writesRequest(t, r, "", "GET "+long[:1011]+" HTTP/1.1\r\nA: 1\r\n\r\n", api.OK)
}

// badFields are fields that have no line.
var badFields = []api.Field{
	{}, {Value: "1"}, {Name: "A B", Value: "1"}, {Name: "A:", Value: "1"}, {Name: "A\x80", Value: "1"}, {Name: "A\r\n", Value: "1"}, {Name: " A", Value: "1"}, {Name: "(", Value: ""},
	{Name: "A", Value: " 1"}, {Name: "A", Value: "1 "}, {Name: "A", Value: "\t"}, {Name: "A", Value: "1\r\nB: 2"}, {Name: "A", Value: "\x00"}, {Name: "A", Value: "1\x7f2"}, {Name: "A", Value: "1\n"},
	{Name: "Content-Length ", Value: "1"}, {Name: "Tran\u017ffer-Encoding", Value: "chunked"},
}

// lengthy are the names of fields that tell lengths, in some letters.
var lengthy = []string{"Content-Length", "Transfer-Encoding", "content-length", "TRANSFER-ENCODING", "CONTENT-Length", "transfer-ENCODING"}

// badValues are no field's values.
var badValues = []string{"\x00", " 1", "1 ", "1\r\n", "\n", "\x7f"}

func TestWriteRequestField(t *testing.T) {
	big, tooMuch := strings.Repeat("v", 9000), strings.Repeat("x", mega+1)
	for _, bad := range badFields {
		for _, l := range [][]api.Field{
			append(fields(), bad),
			append(fields("A", "1", "B", "2"), bad),
			append([]api.Field{bad}, fields("A", "1")...),
			append(fields("Content-Length", "1", "Transfer-Encoding", " "), bad),
			append(many(63), bad),
			append(many(64), bad),
			append([]api.Field{bad}, many(100)...),
			append(fields("A", big), bad),
			append([]api.Field{bad}, fields("A", big)...),
		} {
			r := get()
			r.Fields = l
			requestByPlain(t, r, "", api.ErrField)
			requestByPlain(t, r, "abc", api.ErrField)
		}
		r := get("A", "1")
		r.Fields = append(r.Fields, bad)
		requestByPlain(t, r, tooMuch, api.ErrField)
		r.Fields = append(many(100), bad)
		requestByPlain(t, r, tooMuch, api.ErrField)
	}
	for _, name := range lengthy { // those that are not written need no line
		for _, value := range append(badValues, big) {
			requestByPlain(t, get(name, value), "", api.OK)
			requestByPlain(t, get("A", "1", name, value, "B", "2", name, value), "abc", api.OK)
		}
	}
}

func TestWriteRequestMaxBody(t *testing.T) {
	all := strings.Repeat("0123456789abcde\n", mega/16)
	writesRequest(t, get(), all, "GET / HTTP/1.1\r\nContent-Length: 1048576\r\n\r\n"+all, api.OK)
	writesRequest(t, get(), all[1:], "GET / HTTP/1.1\r\nContent-Length: 1048575\r\n\r\n"+all[1:], api.OK)
	requestByPlain(t, get(), all+"x", api.ErrBig)
	requestByPlain(t, get("Content-Length", "5"), all+"x", api.ErrBig)
	requestByPlain(t, get("Transfer-Encoding", "chunked"), all+all, api.ErrBig)
}

// among puts fields that tell lengths among others, at both ends and in their midst.
func among(l []api.Field, name string) []api.Field {
	f := api.Field{Name: name, Value: "5"}
	l = slices.Insert(slices.Clone(l), len(l)/2, f, f)
	return append(append([]api.Field{f}, l...), f)
}

func TestWriteRequestMaxFields(t *testing.T) {
	for _, body := range []string{"", "abc"} {
		for n, e := range map[int]api.Errno{62: api.OK, 63: api.OK, 64: api.ErrBig, 65: api.ErrBig, 200: api.ErrBig} {
			r := get()
			r.Fields = many(n)
			requestByPlain(t, r, body, e)
			for _, name := range lengthy {
				r.Fields = among(many(n), name)
				requestByPlain(t, r, body, e)
			}
		}
		var parts []string
		for range 50 {
			parts = append(parts, "Content-Length", "5", "Transfer-Encoding", "chunked")
		}
		requestByPlain(t, get(parts...), body, api.OK)
	}
}

// filled makes fields whose lines, each with its end, have so many bytes together.
func filled(size int) []api.Field {
	half := size / 2
	value := strings.Repeat("v", size)
	return fields("A", value[:half-5], "B", value[:size-half-5])
}

func TestWriteRequestMaxHead(t *testing.T) {
	for _, body := range []string{"", "a", "0123456789"} {
		fixed := len("GET / HTTP/1.1\r\n\r\n")
		if body != "" {
			fixed += len("Content-Length: \r\n") + len(strconv.Itoa(len(body)))
		}
		for size, e := range map[int]api.Errno{8190: api.OK, 8191: api.OK, 8192: api.OK, 8193: api.ErrBig, 8194: api.ErrBig, 20000: api.ErrBig} {
			r := get()
			r.Fields = filled(size - fixed)
			if s, _ := plainRequest(r, body); e == api.OK && len(s) != size+len(body) {
				t.Fatal(len(s), size)
			}
			requestByPlain(t, r, body, e)
			for _, name := range lengthy {
				r.Fields = among(r.Fields, name)
			}
			requestByPlain(t, r, body, e)
		}
	}
}

// P7.2

// answer is a code of a response, and the method of what it answers.
type answer struct {
	code   int
	method string
}

// silent are those that have no body, bodied others.
var (
	silent = []answer{{100, "GET"}, {101, ""}, {150, "POST"}, {199, "GET"}, {204, "GET"}, {304, "GET"}, {200, "HEAD"}, {404, "HEAD"}, {100, "HEAD"}, {204, "HEAD"}, {304, "HEAD"}, {599, "HEAD"}}
	bodied = []answer{{200, "GET"}, {201, "POST"}, {203, ""}, {205, "GET"}, {206, "GET"}, {303, "PUT"}, {305, "GET"}, {404, "GET"}, {599, "CONNECT"}, {200, "head"}, {200, "Head"}, {200, "HEADS"}, {200, " HEAD"}, {200, "HEAD "}, {200, "HEA"}, {200, "G T"}}
)

func TestWriteResponse(t *testing.T) {
	for _, c := range []struct {
		r          api.Response
		body, want string
	}{
		{api.Response{Minor: 1, Code: 200, Reason: "OK"}, "", "HTTP/1.1 200 OK\r\nContent-Length: 0\r\n\r\n"},
		{api.Response{Code: 404}, "", "HTTP/1.0 404 \r\nContent-Length: 0\r\n\r\n"},
		{api.Response{Code: 599, Reason: " a\t\x80"}, "a", "HTTP/1.0 599  a\t\x80\r\nContent-Length: 1\r\n\r\na"},
		{ok(), "\r\n", "HTTP/1.1 200 OK\r\nContent-Length: 2\r\n\r\n\r\n"},
		{ok("b", "1", "A", "3", "a", "3", "B", "", "b", "2"), "x", "HTTP/1.1 200 OK\r\nb: 1\r\nA: 3\r\na: 3\r\nB: \r\nb: 2\r\nContent-Length: 1\r\n\r\nx"},
		{ok("Content-Length", "5"), "", "HTTP/1.1 200 OK\r\nContent-Length: 0\r\n\r\n"},
		{ok("Content-Length", "5", "A", "1"), "abc", "HTTP/1.1 200 OK\r\nA: 1\r\nContent-Length: 3\r\n\r\nabc"},
		{ok("Content-Length", "0"), "abc", "HTTP/1.1 200 OK\r\nContent-Length: 3\r\n\r\nabc"},
		{ok("Content-Length", "x", "content-length", "1048577"), "abc", "HTTP/1.1 200 OK\r\nContent-Length: 3\r\n\r\nabc"},
		{ok("Transfer-Encoding", "chunked", "A", "1"), "", "HTTP/1.1 200 OK\r\nA: 1\r\nContent-Length: 0\r\n\r\n"},
		{ok("TRANSFER-ENCODING", "gzip", "Content-length", "3", "A", "1", "transfer-encoding", ""), "ab", "HTTP/1.1 200 OK\r\nA: 1\r\nContent-Length: 2\r\n\r\nab"},
		{ok("Connection", "close", "Trailer", "B", "Content-Lengths", "5"), "", "HTTP/1.1 200 OK\r\nConnection: close\r\nTrailer: B\r\nContent-Lengths: 5\r\nContent-Length: 0\r\n\r\n"},
	} {
		writesResponse(t, c.r, c.body, "GET", true, c.want, api.OK)
		for _, b := range bodied {
			responseByPlain(t, c.r, c.body, b.method, api.OK)
			r := c.r
			r.Code = b.code
			responseByPlain(t, r, c.body, "GET", api.OK)
		}
	}
	if b, e := WriteResponse(ok(), nil, "GET"); string(b) != "HTTP/1.1 200 OK\r\nContent-Length: 0\r\n\r\n" || e != api.OK {
		t.Errorf("%q, %d", b, e)
	}
}

func TestWriteResponseWithoutBody(t *testing.T) {
	tooMuch := strings.Repeat("x", mega+1)
	for _, c := range silent {
		first := fmt.Sprintf("HTTP/1.1 %d OK\r\n", c.code)
		for _, body := range []string{"", "a", "HTTP/1.1 200 OK\r\n\r\n", tooMuch[1:], tooMuch} {
			writesResponse(t, of(c.code), body, c.method, false, first+"\r\n", api.OK)
			writesResponse(t, of(c.code, "A", "1", "b", "", "a", "2"), body, c.method, false, first+"A: 1\r\nb: \r\na: 2\r\n\r\n", api.OK)
			writesResponse(t, of(c.code, "Content-Length", "5", "A", "1"), body, c.method, false, first+"Content-Length: 5\r\nA: 1\r\n\r\n", api.OK)
			writesResponse(t, of(c.code, "transfer-encoding", "chunked", "CONTENT-LENGTH", "x", "Content-Length", "7"), body, c.method, false, first+"transfer-encoding: chunked\r\nCONTENT-LENGTH: x\r\nContent-Length: 7\r\n\r\n", api.OK)
		}
		b, e := WriteResponse(of(c.code), nil, c.method)
		if string(b) != first+"\r\n" || e != api.OK {
			t.Errorf("%q, %d", b, e)
		}
	}
}

func TestWriteResponseEveryCode(t *testing.T) {
	for code := 100; code <= 599; code++ {
		for _, method := range []string{"GET", "HEAD"} {
			for _, minor := range []int{0, 1} {
				r := of(code, "Content-Length", "9", "A", "1", "Transfer-Encoding", "chunked")
				r.Minor = minor
				responseByPlain(t, r, "", method, api.OK)
				responseByPlain(t, r, "abc", method, api.OK)
			}
		}
	}
}

func TestWriteResponseLine(t *testing.T) {
	long := strings.Repeat("a", 1024)
	for _, c := range []struct {
		minor, code int
		reason      string
		e           api.Errno
	}{
		{2, 200, "OK", api.ErrArg},
		{-1, 200, "OK", api.ErrArg},
		{math.MaxInt, 200, "OK", api.ErrArg},
		{math.MinInt, 204, "OK", api.ErrArg},
		{1, 99, "OK", api.ErrArg},
		{1, 0, "", api.ErrArg},
		{1, -200, "", api.ErrArg},
		{1, 600, "OK", api.ErrArg},
		{1, math.MaxInt, "OK", api.ErrArg},
		{1, math.MinInt, "OK", api.ErrArg},
		{1, 200, "O\rK", api.ErrArg},
		{1, 200, "\n", api.ErrArg},
		{1, 304, "\x7f", api.ErrArg},
		{1, 100, "\x00", api.ErrArg},
		{1, 200, long + "\n", api.ErrArg},
		{2, 200, long, api.ErrArg},
		{1, 600, long, api.ErrArg},
		{1, 200, long, api.ErrBig},
		{0, 204, long, api.ErrBig},
		{1, 100, long[:1012], api.ErrBig},
	} {
		for _, method := range []string{"GET", "HEAD", ""} {
			l, body := wrong()
			r := api.Response{Minor: c.minor, Code: c.code, Reason: c.reason}
			responseByPlain(t, r, "", method, c.e)
			responseByPlain(t, r, "abc", method, c.e)
			responseByPlain(t, r, body, method, c.e)
			r.Fields = l
			responseByPlain(t, r, "", method, c.e)
			responseByPlain(t, r, body, method, c.e)
		}
	}
	r := ok("A", "1")
	r.Reason = long[:1011]
	writesResponse(t, r, "", "GET", true, "HTTP/1.1 200 "+long[:1011]+"\r\nA: 1\r\nContent-Length: 0\r\n\r\n", api.OK)
}

func TestWriteResponseField(t *testing.T) {
	big, tooMuch := strings.Repeat("v", 9000), strings.Repeat("x", mega+1)
	for _, c := range slices.Concat(silent, bodied) {
		for _, bad := range badFields {
			for _, l := range [][]api.Field{
				append(fields(), bad),
				append([]api.Field{bad}, fields("A", "1", "B", "2")...),
				append(fields("Content-Length", "1", "Transfer-Encoding", "x"), bad),
				append(many(63), bad),
				append([]api.Field{bad}, many(64)...),
				append(fields("A", big), bad),
			} {
				r := of(c.code)
				r.Fields = l
				responseByPlain(t, r, "abc", c.method, api.ErrField)
			}
		}
		for _, body := range []string{"", tooMuch} {
			r := of(c.code)
			r.Fields = append(append(many(100), filled(9000)...), badFields[0])
			responseByPlain(t, r, body, c.method, api.ErrField)
		}
	}
	for _, name := range lengthy {
		for _, value := range append(badValues, big) {
			for _, c := range bodied { // those that are not written need no line
				responseByPlain(t, of(c.code, "A", "1", name, value), "abc", c.method, api.OK)
			}
			for _, c := range silent {
				e := api.ErrField
				if value == big {
					e = api.ErrBig
				}
				responseByPlain(t, of(c.code, "A", "1", name, value), "abc", c.method, e)
			}
		}
	}
}

func TestWriteResponseMaxBody(t *testing.T) {
	all := strings.Repeat("0123456789abcde\n", mega/16)
	writesResponse(t, ok(), all, "GET", true, "HTTP/1.1 200 OK\r\nContent-Length: 1048576\r\n\r\n"+all, api.OK)
	writesResponse(t, ok(), all[1:], "GET", true, "HTTP/1.1 200 OK\r\nContent-Length: 1048575\r\n\r\n"+all[1:], api.OK)
	responseByPlain(t, ok(), all+"x", "GET", api.ErrBig)
	responseByPlain(t, ok("Content-Length", "5"), all+"x", "GET", api.ErrBig)
	responseByPlain(t, ok("Content-Length", "0"), all+"x", "", api.ErrBig)
	responseByPlain(t, of(205), all+all, "head", api.ErrBig)
}

func TestWriteResponseMaxFields(t *testing.T) {
	for n, e := range map[int]api.Errno{59: api.OK, 60: api.OK, 62: api.OK, 63: api.OK, 64: api.ErrBig, 65: api.ErrBig, 200: api.ErrBig} {
		for _, c := range slices.Concat(silent, bodied) {
			r := of(c.code)
			r.Fields = many(n)
			responseByPlain(t, r, "", c.method, e)
			responseByPlain(t, r, "abc", c.method, e)
			for _, name := range lengthy {
				r.Fields = among(many(n), name)
				e := e
				if !isBodied(c.code, c.method) && n+4 > 63 { // these four are written, too
					e = api.ErrBig
				}
				responseByPlain(t, r, "", c.method, e)
				responseByPlain(t, r, "abc", c.method, e)
			}
		}
	}
}

func TestWriteResponseMaxHead(t *testing.T) {
	for _, c := range slices.Concat(silent, bodied) {
		for _, body := range []string{"", "a", "0123456789"} {
			fixed := len("HTTP/1.1 200 OK\r\n\r\n")
			if isBodied(c.code, c.method) {
				fixed += len("Content-Length: \r\n") + len(strconv.Itoa(len(body)))
			}
			for size, e := range map[int]api.Errno{8191: api.OK, 8192: api.OK, 8193: api.ErrBig, 20000: api.ErrBig} {
				r := of(c.code)
				r.Fields = filled(size - fixed)
				responseByPlain(t, r, body, c.method, e)
				if isBodied(c.code, c.method) {
					r.Fields = among(r.Fields, "Content-Length")
					responseByPlain(t, r, body, c.method, e)
				}
			}
		}
	}
	for size, e := range map[int]api.Errno{8192: api.OK, 8193: api.ErrBig} { // what is written counts, be it a length or not
		r := of(304)
		r.Fields = append(fields("Content-Length", "5", "Transfer-Encoding", "chunked"), filled(size-19-19-28)...)
		responseByPlain(t, r, "abc", "GET", e)
	}
}

// P7.3

// sample is a message in its two parts, and what its head and its body are.
// With an error: the last byte of the two parts makes it.
type sample struct {
	head, text string
	want, body string
	e          api.Errno
}

// tails are bytes behind a message, or behind the byte that fails.
var tails = []string{"x", "\r\n", "\n\n", "GET / HTTP/1.1\r\n\r\n", "HTTP/1.1 200 OK\n\n", "0\r\n\r\n", "\x00\xff"}

// comes reads each beginning of a message, and the message with bytes behind it; method: of a response.
func comes(t *testing.T, response bool, method string, c sample) {
	t.Helper()
	s := c.head + c.text
	want := outcome{c.want, c.body, len(s), api.OK}
	if c.e != api.OK {
		want = failure(response, c.e)
	}
	for i := range len(s) {
		isRead(t, response, method, s[:i], false, failure(response, api.ErrMore))
		switch {
		case i < len(c.head):
			isRead(t, response, method, s[:i], true, failure(response, api.ErrMore))
		case response:
			isRead(t, response, method, s[:i], true, failure(response, api.ErrLost))
		}
	}
	for _, tail := range append(tails, "") {
		isRead(t, response, method, s+tail, false, want)
		isRead(t, response, method, s+tail, true, want)
	}
}

// isRead holds what reading comes to against what is wanted; a request is read as if more could come.
func isRead(t *testing.T, response bool, method, s string, end bool, want outcome) {
	t.Helper()
	switch {
	case response:
		if got := readResponse(t, s, method, end); got != want {
			t.Fatalf("ReadResponse(%.300q, %q, %v) = %v, not %v", s, method, end, got, want)
		}
	case !end:
		if got := readRequest(t, s); got != want {
			t.Fatalf("ReadRequest(%.300q) = %v, not %v", s, got, want)
		}
	}
}

// reads is comes with each kind of lines' ends in the head, and with empty lines ahead of it.
func reads(t *testing.T, response bool, method string, c sample) {
	t.Helper()
	for _, ahead := range []string{"", "\n", "\r\n\n"} {
		for _, end := range []string{"\r\n", "\n"} {
			other := c
			other.head = ahead + strings.ReplaceAll(c.head, "\r\n", end)
			comes(t, response, method, other)
		}
	}
}

// texts are chunked bodies, what is wanted of them, and, where one fails, by which error.
var texts = []struct {
	s, body string
	e       api.Errno
}{
	{"0\r\n\r\n", "", api.OK},
	{"0\n\n", "", api.OK},
	{"3;x\r\nabc\r\n0\r\n\r\n", "abc", api.OK},
	{"3\nabc\n0\n\n", "abc", api.OK},
	{"3\r\nabc\n0\r\n\n", "abc", api.OK},
	{"1\r\na\r\n2 ;x=\"y\"\r\nbc\r\n0;z\r\nA: 1\r\nContent-Length: 9\r\n\r\n", "abc", api.OK},
	{"5\r\n0\r\n\r\n\r\n0\r\n\r\n", "0\r\n\r\n", api.OK},
	{"\n", "", api.ErrLength},
	{"\r\n", "", api.ErrLength},
	{"x\r\n", "", api.ErrLength},
	{"000000001\n", "", api.ErrLength},
	{"1\r\nab\r\n", "", api.ErrLength},
	{"3\nabc\n-1\n", "", api.ErrLength},
	{"100001\r\n", "", api.ErrBig},
	{"3\nabc\nffffe\n", "", api.ErrBig},
	{"3;" + strings.Repeat("x", 1024), "", api.ErrBig},
	{"0\r\n A: 1\r\n", "", api.ErrField},
	{"1\na\n0\nA\n", "", api.ErrField},
}

// heads are lines of fields that frame no body.
var heads = [][]string{{}, {"A", "1"}, {"b", "2", "A", "", "a", "1 \t\x80"}, {"Content-Lengths", "5", "TE", "chunked"}}

func fieldLines(parts ...string) string {
	s := ""
	for i := 0; i < len(parts); i += 2 {
		s += parts[i] + ": " + parts[i+1] + "\r\n"
	}
	return s
}

// reader makes a request or a response of fields: its head's bytes, and its text.
func reader(response bool, parts ...string) (head, want string) {
	if response {
		return "HTTP/1.1 200 OK\r\n" + fieldLines(parts...) + "\r\n", responseText(ok(parts...))
	}
	return "GET / HTTP/1.1\r\n" + fieldLines(parts...) + "\r\n", requestText(get(parts...))
}

func TestReadRequestWithoutBody(t *testing.T) {
	for _, parts := range heads {
		head, want := reader(false, parts...)
		reads(t, false, "", sample{head: head, want: want})
	}
	reads(t, false, "", sample{head: "POST http://h/?a HTTP/1.0\r\n\r\n", want: requestText(api.Request{Method: "POST", Target: "http://h/?a"})})
	reads(t, false, "", sample{head: "HEAD * HTTP/1.1\r\nA:1\r\n\r\n", want: requestText(api.Request{Method: "HEAD", Target: "*", Minor: 1, Fields: fields("A", "1")})})
}

func TestReadLength(t *testing.T) {
	for _, response := range []bool{false, true} {
		for _, parts := range heads {
			for _, value := range []string{"3", "3, 3", "03,", ",0000000000003"} {
				for _, name := range []string{"Content-Length", "content-length", "CONTENT-LENGTH"} {
					head, want := reader(response, append(slices.Clone(parts), name, value)...)
					reads(t, response, "GET", sample{head: head, text: "a\nb", want: want, body: "a\nb"})
				}
			}
			head, want := reader(response, append([]string{"Content-Length", "5", "content-LENGTH", "5"}, parts...)...)
			reads(t, response, "POST", sample{head: head, text: "\x00\xff\r\n\n", want: want, body: "\x00\xff\r\n\n"})
			head, want = reader(response, append([]string{"Content-Length", "0"}, parts...)...)
			reads(t, response, "head", sample{head: head, want: want})
		}
	}
	comes(t, false, "", sample{head: "GET / HTTP/1.0\nContent-Length: 1\n\n", text: "a", body: "a", want: requestText(api.Request{Method: "GET", Target: "/", Fields: fields("Content-Length", "1")})})
	comes(t, true, "GET", sample{head: "HTTP/1.0 404\nContent-Length: 1\n\n", text: "a", body: "a", want: responseText(api.Response{Code: 404, Fields: fields("Content-Length", "1")})})
}

func TestReadChunked(t *testing.T) {
	for _, response := range []bool{false, true} {
		for _, parts := range heads {
			for _, text := range texts {
				head, want := reader(response, append(slices.Clone(parts), "Transfer-Encoding", "chunked")...)
				reads(t, response, "GET", sample{head, text.s, want, text.body, text.e})
			}
		}
		head, want := reader(response, "transfer-encoding", ",CHUNKED", "A", "1")
		reads(t, response, "", sample{head, "1\na\n0\n\n", want, "a", api.OK})
	}
}

func TestReadClose(t *testing.T) {
	for _, parts := range heads {
		for _, first := range []string{"HTTP/1.1 200 OK", "\nHTTP/1.1 200 OK"} {
			for _, end := range []string{"\n", "\r\n"} {
				head := first + end + strings.ReplaceAll(fieldLines(parts...), "\r\n", end) + end
				want := responseText(ok(parts...))
				for i := range len(head) {
					isRead(t, true, "GET", head[:i], false, failure(true, api.ErrMore))
					isRead(t, true, "GET", head[:i], true, failure(true, api.ErrMore))
				}
				for _, body := range append(tails, "", "abc", strings.Repeat("0\r\n\r\n", 300)) {
					for i := range len(body) + 1 {
						isRead(t, true, "GET", head+body[:i], false, failure(true, api.ErrMore))
						isRead(t, true, "GET", head+body[:i], true, outcome{want, body[:i], len(head) + i, api.OK})
					}
				}
			}
		}
	}
	isRead(t, true, "head", "HTTP/1.0 205\n\nabc", true, outcome{responseText(api.Response{Code: 205}), "abc", 17, api.OK})
}

func TestReadResponseWithoutBody(t *testing.T) {
	for _, c := range silent {
		for _, more := range [][]string{{}, {"Content-Length", "5"}, {"Content-Length", "x"}, {"Content-Length", "1048577"}, {"Transfer-Encoding", "chunked"}, {"Transfer-Encoding", "gzip", "Content-Length", "1, 2"}} {
			for _, parts := range heads {
				l := append(slices.Clone(parts), more...)
				head := fmt.Sprintf("HTTP/1.1 %d OK\r\n", c.code) + fieldLines(l...) + "\r\n"
				reads(t, true, c.method, sample{head: head, want: responseText(of(c.code, l...))})
			}
		}
	}
	for _, c := range bodied {
		head := fmt.Sprintf("HTTP/1.1 %d OK\r\nContent-Length: 2\r\n\r\n", c.code)
		reads(t, true, c.method, sample{head: head, text: "ab", body: "ab", want: responseText(of(c.code, "Content-Length", "2"))})
	}
}

func TestReadBadHead(t *testing.T) {
	long := strings.Repeat("a", 1100)
	for _, s := range []string{"GET\r\n", " \r\n", "GET / HTTP/1.2\r\n", "GET / HTTP/1.1 \r\n", "HTTP/1.1 200 OK\r\n", "A: 1\r\n"} {
		reads(t, false, "", sample{head: s, e: api.ErrLine})
	}
	for _, s := range []string{"HTTP/1.1\r\n", "HTTP/1.1 99 OK\r\n", "HTTP/1.1 600 OK\r\n", "HTTP/1.2 200 OK\r\n", "GET / HTTP/1.1\r\n", "A: 1\r\n"} {
		for _, method := range []string{"GET", "HEAD"} {
			reads(t, true, method, sample{head: s, e: api.ErrLine})
		}
	}
	for response, first := range map[bool]string{false: "GET / HTTP/1.1\r\n", true: "HTTP/1.1 200 OK\r\n"} {
		for _, s := range []string{"A\r\n", ": 1\r\n", " A: 1\r\n", "A: 1\r\nB : 2\r\n", "Content-Length: 5\r\nA: \x00\r\n", "Content-Length: x\r\nA\r\n"} {
			reads(t, response, "GET", sample{head: first + s, e: api.ErrField})
			reads(t, response, "HEAD", sample{head: first + s, e: api.ErrField})
		}
		comes(t, response, "GET", sample{head: first + "\r\r\n", e: api.ErrField})
		many := strings.Repeat("Content-Length: 1\r\n", 65)
		reads(t, response, "GET", sample{head: first + many, e: api.ErrBig})
		comes(t, response, "GET", sample{head: long[:1027], e: api.ErrBig})
		comes(t, response, "GET", sample{head: first + "A: " + strings.Repeat("v", 8193-len(first)-3), e: api.ErrBig})
	}
}

func TestReadMaxHead(t *testing.T) {
	for _, response := range []bool{false, true} {
		first, _ := reader(response)
		value := strings.Repeat("v", 8192-len(first)-5-19)
		head, want := reader(response, "A", value, "Content-Length", "3")
		if len(head) != 8192 {
			t.Fatal(len(head))
		}
		comes(t, response, "GET", sample{head, "abc", want, "abc", api.OK})
		long, _ := reader(response, "A", value+"v", "Content-Length", "3")
		comes(t, response, "GET", sample{head: long, e: api.ErrBig})
		var parts []string
		for range 64 {
			parts = append(parts, "Content-Length", "3")
		}
		head, want = reader(response, parts...)
		comes(t, response, "GET", sample{head, "abc", want, "abc", api.OK})
	}
}

func TestReadBadFraming(t *testing.T) {
	for _, c := range []struct {
		e     api.Errno
		parts []string
	}{
		{api.ErrLength, []string{"Content-Length", "x"}},
		{api.ErrLength, []string{"Content-Length", ""}},
		{api.ErrLength, []string{"Content-Length", "-1"}},
		{api.ErrLength, []string{"Content-Length", "1, 2"}},
		{api.ErrLength, []string{"Content-Length", "1", "A", "1", "content-length", "2"}},
		{api.ErrLength, []string{"Content-Length", "\"1"}},
		{api.ErrBig, []string{"Content-Length", "1048577"}},
		{api.ErrBig, []string{"Content-Length", strings.Repeat("9", 100)}},
		{api.ErrLength, []string{"Transfer-Encoding", "gzip"}},
		{api.ErrLength, []string{"Transfer-Encoding", "gzip, chunked"}},
		{api.ErrLength, []string{"Transfer-Encoding", "chunked", "Content-Length", "1"}},
		{api.ErrLength, []string{"Transfer-Encoding", "chunked", "Transfer-Encoding", "chunked"}},
	} {
		for _, response := range []bool{false, true} {
			head, _ := reader(response, c.parts...)
			reads(t, response, "GET", sample{head: head, e: c.e})
		}
	}
	reads(t, false, "", sample{head: "GET / HTTP/1.0\r\nTransfer-Encoding: chunked\r\n\r\n", e: api.ErrLength})
	reads(t, true, "GET", sample{head: "HTTP/1.0 200 OK\r\nTransfer-Encoding: chunked\r\n\r\n", e: api.ErrLength})
}

func TestReadMaxBody(t *testing.T) {
	t.Parallel()
	all := strings.Repeat("0123456789abcde\n", mega/16)
	for _, response := range []bool{false, true} {
		for _, c := range []struct {
			field  []string
			s      string // the whole body
			bodyOf string
		}{
			{[]string{"Content-Length", "1048576"}, all, all},
			{[]string{"Content-Length", "1048575"}, all[1:], all[1:]},
			{[]string{"Transfer-Encoding", "chunked"}, "100000\r\n" + all + "\r\n0\r\n\r\n", all},
			{[]string{"Transfer-Encoding", "chunked"}, "3\n" + all[:3] + "\nffffd\n" + all[3:] + "\n0\n\n", all},
		} {
			head, want := reader(response, c.field...)
			for _, tail := range tails {
				isRead(t, response, "GET", head+c.s+tail, false, outcome{want, c.bodyOf, len(head + c.s), api.OK})
				isRead(t, response, "GET", head+c.s+tail, true, outcome{want, c.bodyOf, len(head + c.s), api.OK})
			}
			for _, less := range []int{1, 2, 100, mega / 2} {
				s := head + c.s[:len(c.s)-less]
				isRead(t, response, "GET", s, false, failure(response, api.ErrMore))
				isRead(t, response, "GET", s, true, failure(response, api.ErrLost))
			}
		}
		head, _ := reader(response, "Transfer-Encoding", "chunked")
		for _, end := range []bool{false, true} {
			isRead(t, response, "GET", head+"100000\n"+all+"\n1\n", end, failure(response, api.ErrBig))
		}
	}
	head, want := reader(true)
	isRead(t, true, "GET", head+all, true, outcome{want, all, len(head) + mega, api.OK})
	isRead(t, true, "GET", head+all, false, failure(true, api.ErrMore))
	for _, more := range []string{"x", "\n", "more"} {
		isRead(t, true, "GET", head+all+more, true, failure(true, api.ErrBig))
		isRead(t, true, "GET", head+all+more, false, failure(true, api.ErrBig))
	}
}

func TestReadNothing(t *testing.T) {
	for _, b := range [][]byte{nil, {}} {
		r, body, used, e := ReadRequest(b)
		if requestText(r) != requestText(api.Request{}) || len(body) != 0 || used != 0 || e != api.ErrMore {
			t.Errorf("ReadRequest(nothing) = %v, %q, %d, %d", r, body, used, e)
		}
		for _, end := range []bool{false, true} {
			r, body, used, e := ReadResponse(b, "GET", end)
			if responseText(r) != responseText(api.Response{}) || len(body) != 0 || used != 0 || e != api.ErrMore {
				t.Errorf("ReadResponse(nothing) = %v, %q, %d, %d", r, body, used, e)
			}
		}
	}
}

// Messages that stand one behind the other are read one by one.
func TestReadOneByOne(t *testing.T) {
	rest, n := "", 0
	for i, text := range texts {
		if text.e == api.OK {
			rest += "\r\nPOST /" + strconv.Itoa(i) + " HTTP/1.1\r\nTransfer-Encoding: chunked\r\n\r\n" + text.s + "GET /x HTTP/1.0\n\nPUT / HTTP/1.1\nContent-Length: 4\n\nGET "
			n += 3
		}
	}
	for i := range n {
		o := readRequest(t, rest)
		if o.e != api.OK {
			t.Fatalf("request %d of %q: %d", i, rest, o.e)
		}
		want := []string{texts[i/3].body, "", "GET "}[i%3]
		if o.body != want {
			t.Fatalf("request %d: %q, not %q", i, o.body, want)
		}
		rest = rest[o.used:]
	}
	if rest != "" {
		t.Errorf("%q is left", rest)
	}
}

// plainRead is the plain reading: a byte at a time, by the layers below.
func plainRead(response bool, method, s string, end bool) outcome {
	r, used := head.New(response), 0
	for whole := false; !whole; used++ {
		if used == len(s) {
			return failure(response, api.ErrMore)
		}
		_, done, e := r.Feed([]byte(s[used : used+1]))
		if e != api.OK {
			return failure(response, e)
		}
		whole = done
	}
	q, _ := r.Request()
	a, _ := r.Response()
	text := requestText(q)
	kind, n, e := framing.OfRequest(q)
	if response {
		text = responseText(a)
		kind, n, e = framing.OfResponse(a, method)
	}
	if e != api.OK {
		return failure(response, e)
	}
	body := ""
	d, _ := framing.New(kind, n)
	_, _, whole, _ := d.Feed(nil)
	for ; !whole && used < len(s); used++ {
		var out []byte
		if out, _, whole, e = d.Feed([]byte(s[used : used+1])); e != api.OK {
			return failure(response, e)
		}
		body += string(out)
	}
	switch {
	case !whole && kind == framing.Close && end:
	case !whole && response && end:
		return failure(response, api.ErrLost)
	case !whole:
		return failure(response, api.ErrMore)
	}
	return outcome{text, body, used, api.OK}
}

// see reads a text as a request, and as responses, and holds that against the plain reading.
func see(t *testing.T, s string) {
	t.Helper()
	isRead(t, false, "", s, false, plainRead(false, "", s, false))
	for _, method := range []string{"GET", "HEAD"} {
		for _, end := range []bool{false, true} {
			isRead(t, true, method, s, end, plainRead(true, method, s, end))
		}
	}
}

func TestEveryShortMessage(t *testing.T) {
	var all func(s string, more int)
	all = func(s string, more int) {
		see(t, "A / HTTP/1.1"+s)
		see(t, "HTTP/1.1 204"+s)
		see(t, "HTTP/1.1 200"+s)
		for _, p := range []string{"\n", "\r\n", "Content-Length: 2\n", "Transfer-Encoding: chunked\n", "1\n", "x", "0"} {
			if more > 0 {
				all(s+p, more-1)
			}
		}
	}
	all("", 5)
	all("\nTransfer-Encoding: chunked\n\n", 4)
}

func TestChangedBytes(t *testing.T) {
	for _, s := range []string{
		"\nA / HTTP/1.1\r\nContent-Length: 2\r\n\r\nabc",
		"HTTP/1.1 200\nTransfer-Encoding: chunked\n\n1\na\n0\nB:1\n\n",
		"HTTP/1.1 200 \n\nabc",
	} {
		for i := range len(s) {
			for c := range 256 {
				one := string([]byte{byte(c)})
				see(t, s[:i]+one+s[i:])
				see(t, s[:i]+one+s[i+1:])
			}
			see(t, s[:i]+s[i+1:])
		}
	}
}

// P7.4

// Every head of these parts is written, or refused, and what is written is read as it was.
func TestWrittenIsRead(t *testing.T) {
	lists := [][]api.Field{nil}
	for _, one := range [][]api.Field{fields("A", "1"), fields("b", ""), fields("Content-Length", "3"), fields("content-length", "x"), fields("TRANSFER-ENCODING", "chunked"), fields("A", "\x80 \"\t1"), fields("A:", "1"), fields("A", " ")} {
		for _, l := range slices.Clone(lists) {
			lists = append(lists, append(slices.Clone(l), one...))
		}
	}
	for _, l := range lists {
		for _, body := range []string{"", "a", "abc", "0\r\n\r\n"} {
			for minor := range 3 {
				r := api.Request{Method: "POST", Target: "/a?b", Minor: minor, Fields: l}
				_, e := plainRequest(r, body)
				requestByPlain(t, r, body, e)
				for _, code := range []int{99, 100, 200, 204, 304, 404} {
					for _, method := range []string{"GET", "HEAD"} {
						a := api.Response{Minor: minor, Code: code, Reason: "Of course", Fields: l}
						_, e := plainResponse(a, body, method)
						responseByPlain(t, a, body, method, e)
					}
				}
			}
		}
	}
}

// What is read may be written, and is read again as it was, but for the fields that tell lengths.
func TestReadIsWritten(t *testing.T) {
	for _, text := range texts {
		if text.e != api.OK {
			continue
		}
		r, body, _, e := ReadRequest([]byte("POST / HTTP/1.1\nA: 1\nTransfer-Encoding: chunked\nB: 2\n\n" + text.s))
		if e != api.OK {
			t.Fatal(e)
		}
		length := "Content-Length: " + strconv.Itoa(len(text.body)) + "\r\n"
		if text.body == "" {
			length = ""
		}
		writesRequest(t, r, string(body), "POST / HTTP/1.1\r\nA: 1\r\nB: 2\r\n"+length+"\r\n"+text.body, api.OK)
		a, body, _, e := ReadResponse([]byte("HTTP/1.1 200\nTransfer-Encoding: chunked\nA: 1\n\n"+text.s), "GET", false)
		if e != api.OK {
			t.Fatal(e)
		}
		length = "Content-Length: " + strconv.Itoa(len(text.body)) + "\r\n"
		writesResponse(t, a, string(body), "GET", true, "HTTP/1.1 200 \r\nA: 1\r\n"+length+"\r\n"+text.body, api.OK)
	}
	a, body, _, e := ReadResponse([]byte("HTTP/1.0 200 OK\n\nabc"), "GET", true)
	if e != api.OK {
		t.Fatal(e)
	}
	writesResponse(t, a, string(body), "GET", true, "HTTP/1.0 200 OK\r\nContent-Length: 3\r\n\r\nabc", api.OK)
	a, body, _, e = ReadResponse([]byte("HTTP/1.1 200 OK\nContent-Length: 3\nTransfer-Encoding: chunked\n\nabc"), "HEAD", false)
	if e != api.OK {
		t.Fatal(e)
	}
	writesResponse(t, a, string(body), "HEAD", false, "HTTP/1.1 200 OK\r\nContent-Length: 3\r\nTransfer-Encoding: chunked\r\n\r\n", api.OK)
}
