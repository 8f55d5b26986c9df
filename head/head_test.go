package head

import (
	"slices"
	"strconv"
	"strings"
	"testing"

	"gatepost/api"
	"gatepost/field"
	"gatepost/line"
	"gatepost/trial"
)

// outcome is what a text comes to: how many bytes are taken in all, and what is told then.
type outcome struct {
	used     int
	done     bool
	e        api.Errno
	request  api.Request
	response api.Response
}

func (o outcome) over() bool { return o.done || o.e != api.OK }

// plain is the plain reading of a text: a byte at a time, with all that was fed at hand.
type plain struct {
	response, behind bool // behind: the first line was there
	start            int  // where the line began
	fields           []api.Field
	out              outcome
}

func read(response bool, s string) outcome {
	p := plain{response: response}
	for i := 0; i < len(s) && !p.out.done; i++ {
		p.out.used = i + 1
		if e := p.take(s[:i+1]); e != api.OK {
			return outcome{used: i + 1, e: e}
		}
	}
	if !p.out.done {
		return outcome{used: p.out.used}
	}
	if response {
		p.out.response.Fields = p.fields
	} else {
		p.out.request.Fields = p.fields
	}
	return p.out
}

func (p *plain) take(s string) api.Errno {
	if len(s) >= 8192+1 || !p.behind && len(s)-p.start >= 1024+3 {
		return api.ErrBig
	}
	if s[len(s)-1] != 10 {
		return api.OK
	}
	text := s[p.start : len(s)-1]
	if text != "" && text[len(text)-1] == 13 {
		text = text[:len(text)-1]
	}
	p.start = len(s)
	return p.ended(text)
}

func (p *plain) ended(text string) (e api.Errno) {
	switch {
	case text == "":
		p.out.done = p.behind
		return api.OK
	case p.behind && len(p.fields) == 64:
		return api.ErrBig
	case p.behind:
		f, e := field.Parse(text)
		p.fields = append(p.fields, f)
		return e
	}
	p.behind = true
	if p.response {
		a := &p.out.response
		a.Minor, a.Code, a.Reason, e = line.Status(text)
		return e
	}
	q := &p.out.request
	q.Method, q.Target, q.Minor, e = line.Request(text)
	return e
}

func equalRequests(a, b api.Request) bool {
	return a.Method == b.Method && a.Target == b.Target && a.Minor == b.Minor && slices.Equal(a.Fields, b.Fields)
}

func equalResponses(a, b api.Response) bool {
	return a.Minor == b.Minor && a.Code == b.Code && a.Reason == b.Reason && slices.Equal(a.Fields, b.Fields)
}

func isRequest(t *testing.T, r *Reader, want api.Request, wantE api.Errno) {
	t.Helper()
	if got, e := r.Request(); !equalRequests(got, want) || e != wantE {
		t.Fatalf("Request() = %v, %d, not %v, %d", got, e, want, wantE)
	}
}

func isResponse(t *testing.T, r *Reader, want api.Response, wantE api.Errno) {
	t.Helper()
	if got, e := r.Response(); !equalResponses(got, want) || e != wantE {
		t.Fatalf("Response() = %v, %d, not %v, %d", got, e, want, wantE)
	}
}

// tells looks at what a reader tells: the head only if it is whole, and only by the call of its kind.
func tells(t *testing.T, r *Reader, response bool, o outcome) {
	t.Helper()
	wantRequest, wantResponse := api.ErrState, api.ErrState
	if o.done && response {
		wantResponse = api.OK
	} else if o.done {
		wantRequest = api.OK
	}
	isRequest(t, r, o.request, wantRequest)
	isResponse(t, r, o.response, wantResponse)
}

// behind is what lies in the spare room of a piece that is fed.
const behind = "A: 1\r\n\r\n\n"

// give feeds a piece that has spare room, looks whether both read as before, and writes them over.
func give(t *testing.T, r *Reader, piece string) (used int, done bool, e api.Errno) {
	t.Helper()
	room := append(append(make([]byte, 0, len(piece)+len(behind)), piece...), behind...)
	used, done, e = r.Feed(room[:len(piece)])
	if string(room[:len(piece)]) != piece || string(room[len(piece):]) != behind {
		t.Fatalf("%.300q became %.300q", piece+behind, room)
	}
	clear(room)
	return used, done, e
}

// fed feeds pieces to a new reader, and holds each answer against what all of them come to.
func fed(t *testing.T, response bool, want outcome, pieces ...string) *Reader {
	t.Helper()
	r, taken := New(response), 0
	for i, p := range pieces {
		wantUsed := min(len(p), want.used-taken)
		taken += wantUsed
		var now outcome
		if taken == want.used {
			now = want
		}
		used, done, e := give(t, r, p)
		if used != wantUsed || done != now.done || e != now.e {
			t.Fatalf("piece %d of %.300q: %d, %v, %d, not %d, %v, %d", i, pieces, used, done, e, wantUsed, now.done, now.e)
		}
		tells(t, r, response, now)
	}
	return r
}

// single cuts a text into its bytes.
func single(s string) []string {
	var l []string
	for i := range len(s) {
		l = append(l, s[i:i+1])
	}
	return l
}

// over looks whether a reader that is whole, or failed, takes nothing more and tells what it told.
func over(t *testing.T, r *Reader, response bool, want outcome) {
	t.Helper()
	for _, more := range []string{"", "\n", "\r\n\r\n", "A: 1\r\n\r\n", "B\n", "GET / HTTP/1.1\r\n\r\n", "HTTP/1.1 200 OK\r\n\r\n", strings.Repeat("x", 9000), ""} {
		if used, done, e := give(t, r, more); used != 0 || done != want.done || e != want.e {
			t.Fatalf("behind the end Feed(%.30q) = %d, %v, %d, not 0, %v, %d", more, used, done, e, want.done, want.e)
		}
		tells(t, r, response, want)
	}
}

// comes feeds a text whole, byte by byte, and cut at every place, with a piece of no byte between:
// each way it must come to what is wanted.
func comes(t *testing.T, response bool, s string, want outcome) {
	t.Helper()
	comesCut(t, response, s, want, 0)
}

// comesCut is comes, cut only from a place on: for long texts that differ near their ends.
func comesCut(t *testing.T, response bool, s string, want outcome, from int) {
	t.Helper()
	if got := read(response, s); got.used != want.used || got.done != want.done || got.e != want.e || !equalRequests(got.request, want.request) || !equalResponses(got.response, want.response) {
		t.Fatalf("the plain reading of %.300q is %v, not %v", s, got, want)
	}
	for _, pieces := range [][]string{{s}, single(s)} {
		if r := fed(t, response, want, pieces...); want.over() {
			over(t, r, response, want)
		}
	}
	for i := from; i <= len(s); i++ {
		fed(t, response, want, s[:i], "", s[i:])
	}
}

// thrice cuts a short text at every two places.
func thrice(t *testing.T, response bool, s string, want outcome) {
	t.Helper()
	for j := range len(s) + 1 {
		for i := range j + 1 {
			fed(t, response, want, s[:i], s[i:j], s[j:])
		}
	}
}

// get is the head of GET /, and ok that of a response.
func get(parts ...string) api.Request {
	return api.Request{Method: "GET", Target: "/", Minor: 1, Fields: trial.Fields(parts...)}
}

func ok(parts ...string) api.Response {
	return api.Response{Minor: 1, Code: 200, Reason: "OK", Fields: trial.Fields(parts...)}
}

func wholeRequest(used int, q api.Request) outcome {
	return outcome{used: used, done: true, request: q}
}

func wholeResponse(used int, a api.Response) outcome {
	return outcome{used: used, done: true, response: a}
}

func failure(used int, e api.Errno) outcome { return outcome{used: used, e: e} }

// P5.1, P5.2: heads that are whole

func TestRequest(t *testing.T) {
	const first = "GET / HTTP/1.1\n"
	for _, c := range []struct {
		s    string
		used int
		want api.Request
	}{
		{"GET / HTTP/1.1\r\nA: 1\r\n\r\n", 24, get("A", "1")},
		{"GET / HTTP/1.1\nA: 1\n\n", 21, get("A", "1")},
		{"GET / HTTP/1.1\r\nA: 1\n\r\n", 23, get("A", "1")},
		{"GET / HTTP/1.1\nA: 1\r\n\n", 22, get("A", "1")},
		{"GET / HTTP/1.1\r\n\r\n", 18, get()},
		{"GET / HTTP/1.1\n\n", 16, get()},
		{"GET / HTTP/1.1\n\r\n", 17, get()},
		{"GET / HTTP/1.1\r\n\n", 17, get()},
		{"POST http://h/?a HTTP/1.0\r\n\r\n", 29, api.Request{Method: "POST", Target: "http://h/?a"}},
		{"\nGET / HTTP/1.1\n\n", 17, get()},
		{"\r\nGET / HTTP/1.1\r\n\r\n", 20, get()},
		{"\r\n\n\n\r\nGET / HTTP/1.1\nA: 1\n\n", 27, get("A", "1")},
		{first + "A: 1\nB:2\n\n", 25, get("A", "1", "B", "2")},
		{first + "B: 2\nA: 1\n\n", 26, get("B", "2", "A", "1")},
		{first + "b: 1\nA: 3\na: 3\nB: \nb: 2\n\n", 40, get("b", "1", "A", "3", "a", "3", "B", "", "b", "2")},
		{first + "A:\t b \t c:\"d \x80\xff\t\r\n\n", 34, get("A", "b \t c:\"d \x80\xff")},
		{first + "Content-Length: x\nHost:\n\n", 40, get("Content-Length", "x", "Host", "")}, // what a field means is others' matter
		// bytes behind the head
		{"GET / HTTP/1.1\r\nA: 1\r\n\r\nA: 2\r\n\r\n", 24, get("A", "1")},
		{"GET / HTTP/1.1\r\n\r\n\r\n", 18, get()},
		{"GET / HTTP/1.1\n\n\n", 16, get()},
		{"GET / HTTP/1.1\n\n\r", 16, get()},
		{"GET / HTTP/1.1\n\n\x00\xff", 16, get()},
		{"\nGET / HTTP/1.1\n\nGET /b HTTP/1.1\n\n", 17, get()},
	} {
		comes(t, false, c.s, wholeRequest(c.used, c.want))
		thrice(t, false, c.s, wholeRequest(c.used, c.want))
	}
}

func TestResponse(t *testing.T) {
	for _, c := range []struct {
		s    string
		used int
		want api.Response
	}{
		{"HTTP/1.1 200 OK\r\nA: 1\r\n\r\n", 25, ok("A", "1")},
		{"HTTP/1.1 200 OK\nA: 1\n\n", 22, ok("A", "1")},
		{"HTTP/1.1 200 OK\r\nA: 1\n\r\n", 24, ok("A", "1")},
		{"HTTP/1.1 200 OK\r\n\r\n", 19, ok()},
		{"HTTP/1.1 200 OK\n\n", 17, ok()},
		{"HTTP/1.0 404\r\n\r\n", 16, api.Response{Code: 404}},
		{"HTTP/1.0 599 \n\n", 15, api.Response{Code: 599}},
		{"HTTP/1.1 100 \t \x80 a\r\n\n", 21, api.Response{Minor: 1, Code: 100, Reason: "\t \x80 a"}},
		{"\n\r\nHTTP/1.1 200 OK\nb: 2\na:\nB: 1\n\n", 33, ok("b", "2", "a", "", "B", "1")},
		{"HTTP/1.1 200 OK\r\n\r\nbody\r\n\r\n", 19, ok()},
		{"HTTP/1.1 200 OK\n\n\n", 17, ok()},
		{"HTTP/1.1 304 OK\nA: 1\n\nHTTP/1.1 200 OK\n\n", 22, api.Response{Minor: 1, Code: 304, Reason: "OK", Fields: trial.Fields("A", "1")}},
	} {
		comes(t, true, c.s, wholeResponse(c.used, c.want))
		thrice(t, true, c.s, wholeResponse(c.used, c.want))
	}
}

// P5.1: heads that are not whole, and those that fail

func TestNotWhole(t *testing.T) {
	for _, s := range []string{
		"", "\r", "\n", "\r\n", "\n\n\r\n", "\r\r", "G", "\x00", "GET / HTTP/1.1", "GET / HTTP/1.1\r", "GET / HTTP/1.1\n", "GET / HTTP/1.1\r\n", "\nGET / HTTP/1.1\r\n",
		"GET / HTTP/1.1\n\r", "GET / HTTP/1.1\nA", "GET / HTTP/1.1\nA: 1", "GET / HTTP/1.1\nA: 1\r", "GET / HTTP/1.1\nA: 1\r\n", "GET / HTTP/1.1\nA: 1\r\n\r", "GET / HTTP/1.1\nA: 1\n\rB",
		"GET / HTTP/1.1\nno field, but it has not ended", "no line, but it has not ended",
	} {
		comes(t, false, s, outcome{used: len(s)})
		s = strings.ReplaceAll(s, "GET / HTTP/1.1", "HTTP/1.1 200 OK")
		comes(t, true, s, outcome{used: len(s)})
	}
}

func TestNothingFed(t *testing.T) {
	for _, response := range []bool{false, true} {
		r := New(response)
		for _, b := range [][]byte{nil, {}, nil} {
			if used, done, e := r.Feed(b); used != 0 || done || e != api.OK {
				t.Errorf("Feed of nothing = %d, %v, %d", used, done, e)
			}
			tells(t, r, response, outcome{})
		}
	}
}

// badFields are lines behind the first one that are no fields, each without its end.
var badFields = []string{"A", "A 1", ":", ": 1", "A : 1", " A: 1", "\tA: 1", " ", "\t", "A\x80: 1", "A: \x00", "A: 1\x7f", "\rA: 1", "A\r: 1", "A:\r1", "A: 1\r2", "A: 1\r\r", "\r\r", "\x00"}

func TestFailure(t *testing.T) {
	for _, s := range []string{
		"GET\n", "GET /\r\n", " GET / HTTP/1.1\n", "GET / HTTP/1.1 \n", "GET  / HTTP/1.1\n", "GET / HTTP/1.2\r\n", "GET / HTTP/2\n", "GET / http/1.1\n", "G(T / HTTP/1.1\n", "GET /\x80 HTTP/1.1\n", " \n", "\t\r\n", "\x00\n", "A: 1\n",
		"\rGET / HTTP/1.1\n", "GET\r / HTTP/1.1\r\n", "GET /\r HTTP/1.1\r\n", "GET / \rHTTP/1.1\n", "GET / HTTP/1.1\r\r\n", "\r\r\n", "\r\r\r\n", "\r \n",
		"HTTP/1.1 200 OK\r\n", // a response's
	} {
		for _, ahead := range []string{"", "\n", "\r\n", "\r\n\n\r\n"} {
			comes(t, false, ahead+s, failure(len(ahead+s), api.ErrLine))
			comes(t, false, ahead+s+"\r\nA: 1\r\n\r\n", failure(len(ahead+s), api.ErrLine))
		}
	}
	for _, s := range []string{
		"HTTP/1.1\n", "HTTP/1.1 \r\n", "HTTP/1.1 20\n", "HTTP/1.1 2000\n", "HTTP/1.1 99 OK\n", "HTTP/1.1 099 OK\n", "HTTP/1.1 600 OK\n", "HTTP/1.2 200 OK\n", "HTTP/1.1  200 OK\n", " HTTP/1.1 200 OK\n", "HTTP/1.1 200 \x7f\n", " \n",
		"\rHTTP/1.1 200 OK\n", "HTTP/1.1\r 200 OK\n", "HTTP/1.1 200\r OK\n", "HTTP/1.1 200 O\rK\n", "HTTP/1.1 200 OK\r\r\n", "HTTP/1.1 200\r\r\n", "\r\r\n",
		"GET / HTTP/1.1\r\n", // a request's
	} {
		for _, ahead := range []string{"", "\n", "\r\n", "\r\n\n\r\n"} {
			comes(t, true, ahead+s, failure(len(ahead+s), api.ErrLine))
			comes(t, true, ahead+s+"\r\nA: 1\r\n\r\n", failure(len(ahead+s), api.ErrLine))
		}
	}
}

func TestFailureOfField(t *testing.T) {
	for _, bad := range badFields {
		for _, ahead := range []string{"", "A: 1\r\n", "B: 2\nA: 1\n"} {
			for _, end := range []string{"\n", "\r\n"} {
				s := "GET / HTTP/1.1\r\n" + ahead + bad + end
				comes(t, false, s, failure(len(s), api.ErrField))
				comes(t, false, s+"A: 1\n\n", failure(len(s), api.ErrField))
				s = "HTTP/1.1 200 OK\n" + ahead + bad + end
				comes(t, true, s, failure(len(s), api.ErrField))
				comes(t, true, s+"A: 1\n\n", failure(len(s), api.ErrField))
			}
		}
	}
}

// P5.1: its limits

// many makes the lines of so many fields, and their list.
func many(n int, end string) (string, []api.Field) {
	var text strings.Builder
	var l []api.Field
	for i := range n {
		f := api.Field{Name: "F" + strconv.Itoa(i%7), Value: strconv.Itoa(i)}
		text.WriteString(f.Name + ": " + f.Value + end)
		l = append(l, f)
	}
	return text.String(), l
}

func TestMaxFields(t *testing.T) {
	for _, end := range []string{"\n", "\r\n"} {
		for _, n := range []int{1, 63, 64} {
			text, l := many(n, end)
			q, a := get(), ok()
			q.Fields, a.Fields = l, l
			s := "GET / HTTP/1.1" + end + text + end
			comes(t, false, s+"A: 1\n\n", wholeRequest(len(s), q))
			s = "HTTP/1.1 200 OK" + end + text + end
			comes(t, true, s+"A: 1\n\n", wholeResponse(len(s), a))
		}
		text, _ := many(64, end)
		s := "GET / HTTP/1.1" + end + text
		for _, one := range append(badFields, "A: 1") {
			comes(t, false, s+one, outcome{used: len(s + one)})
			comes(t, false, s+one+end, failure(len(s+one+end), api.ErrBig))
			comes(t, false, s+one+end+"\n\n", failure(len(s+one+end), api.ErrBig))
		}
		text, _ = many(63, end)
		s = "HTTP/1.1 200 OK" + end + text + "B" + end
		comes(t, true, s+"A: 1\n\n", failure(len(s), api.ErrField))
		text, _ = many(64, end)
		s = "HTTP/1.1 200 OK" + end + text + "B" + end
		comes(t, true, s+"A: 1\n\n", failure(len(s), api.ErrBig))
	}
}

// filled makes a text of so many bytes: what is given, and one field's line, with no end, that fills it up.
func filled(size int, ahead string) (s, value string) {
	value = strings.Repeat("v", size-len(ahead)-len("A: "))
	return ahead + "A: " + value, value
}

func TestMaxHead(t *testing.T) {
	t.Parallel()
	for _, c := range []struct {
		response    bool
		ahead, line string
		ends        string // of the field and of the head
	}{
		{false, "", "GET / HTTP/1.1\n", "\n\n"},
		{false, "\r\n\n", "GET / HTTP/1.1\r\n", "\r\n\r\n"},
		{false, strings.Repeat("\n", 500), "GET / HTTP/1.1\r\n", "\n\r\n"},
		{true, strings.Repeat("\r\n", 1000), "HTTP/1.1 200 OK\n", "\r\n\n"},
		{true, "", "HTTP/1.1 200 OK\r\n", "\n\n"},
	} {
		s, value := filled(8192-len(c.ends), c.ahead+c.line)
		want := wholeRequest(8192, get("A", value))
		if c.response {
			want = wholeResponse(8192, ok("A", value))
		}
		comes(t, c.response, s+c.ends, want)
		comesCut(t, c.response, s+c.ends+"\n", want, 8180)
		comesCut(t, c.response, s+c.ends+"x\n\n", want, 8180)
		s, _ = filled(8192+1-len(c.ends), c.ahead+c.line)
		comes(t, c.response, s+c.ends, failure(8193, api.ErrBig)) // the last byte would end the head
	}
}

func TestBeyondMaxHead(t *testing.T) {
	t.Parallel()
	const first = "GET / HTTP/1.1\n"
	long, _ := filled(8192, first)
	ended, _ := filled(8191, first)
	bad := first + strings.Repeat("v", 8192-len(first))
	empty := strings.Repeat("\n", 8192)
	pairs := strings.Repeat("\r\n", 4096)
	cut := strings.Repeat("\n", 8192-len("GET / HTTP/1.1")) + "GET / HTTP/1.1"
	for _, s := range []string{long, ended + "\n", ended + "\r", bad, empty, pairs, "\n" + pairs[:8190] + "\r", cut, cut[1:] + "\n", cut[1:] + "\r"} {
		comesCut(t, false, s, outcome{used: 8192}, 8180)
		comes(t, false, s+"\n", failure(8193, api.ErrBig)) // would end the line, be it one or none
		for _, one := range []string{"\r", "v", ":", "\x00"} {
			comesCut(t, false, s+one, failure(8193, api.ErrBig), 8180)
		}
		comesCut(t, false, s+"\r\n\r\n", failure(8193, api.ErrBig), 8180)
	}
	pieces := append(slices.Repeat([]string{strings.Repeat("\r\n", 512)}, 8), "", "", "\n", "x")
	fed(t, true, failure(8193, api.ErrBig), pieces...)
}

// lineOf makes a first line of so many bytes, without its end.
func lineOf(response bool, size int) (s, part string) {
	ahead, behind := "GET /", " HTTP/1.1"
	if response {
		ahead, behind = "HTTP/1.1 200 ", ""
	}
	part = strings.Repeat("a", size-len(ahead+behind))
	return ahead + part + behind, part
}

func TestMaxLine(t *testing.T) {
	for _, ahead := range []string{"", "\n", "\r\n", strings.Repeat("\r\n", 300)} {
		for _, end := range []string{"\n", "\r\n"} {
			for _, size := range []int{1023, 1024} {
				s, part := lineOf(false, size)
				s = ahead + s + end + "A: 1" + end + end
				q := get("A", "1")
				q.Target = "/" + part
				comes(t, false, s, wholeRequest(len(s), q))
				s, part = lineOf(true, size)
				s = ahead + s + end + "A: 1" + end + end
				a := ok("A", "1")
				a.Reason = part
				comes(t, true, s, wholeResponse(len(s), a))
			}
		}
	}
}

func TestBeyondMaxLine(t *testing.T) {
	bad := strings.Repeat(" ", 2000)
	for _, ahead := range []string{"", "\n", "\r\n\n", strings.Repeat("\n", 200)} {
		for _, response := range []bool{false, true} {
			long, _ := lineOf(response, 2000)
			fits, _ := lineOf(response, 1024)
			one, _ := lineOf(response, 1025)
			for _, c := range []struct {
				s    string
				used int // behind what is ahead
				e    api.Errno
			}{
				{fits + "\r", 1025, api.OK},
				{one, 1025, api.OK},
				{one + "\r", 1026, api.OK},
				{fits + "\rx", 1026, api.OK},
				{fits + "\r\r", 1026, api.OK},
				{long[:1026], 1026, api.OK},
				{bad[:1026], 1026, api.OK},
				{one + "\n\n\n", 1026, api.ErrBig}, // the line's own error
				{bad[:1025] + "\nA: 1", 1026, api.ErrBig},
				{one + "\r\n\r\n", 1027, api.ErrBig}, // the byte's error, which counts the end
				{fits + "\r\r\n\n", 1027, api.ErrBig},
				{fits + "\rx\n\n", 1027, api.ErrBig},
				{long, 1027, api.ErrBig},
				{long + "\n\n", 1027, api.ErrBig},
				{bad, 1027, api.ErrBig},
				{bad[:1026] + "\n\n", 1027, api.ErrBig},
				{bad[:1026] + "\r\n", 1027, api.ErrBig},
				{bad[:1024] + "\n\n", 1025, api.ErrLine},
				{bad[:1024] + "\r\n\n", 1026, api.ErrLine},
				{strings.Repeat("\r", 1025) + "\n", 1026, api.ErrLine}, // one 13 is the end's
				{strings.Repeat("\r", 1026) + "\n", 1027, api.ErrBig},
			} {
				comes(t, response, ahead+c.s, failure(len(ahead)+c.used, c.e))
			}
		}
	}
}

// A line behind the first one may be as long as the head has room for it.
func TestLongFields(t *testing.T) {
	for _, size := range []int{1021, 1022, 1023, 1024, 1025, 5000} {
		value := strings.Repeat("v", size)
		s := "GET / HTTP/1.1\nA: " + value + "\r\nB: " + value[:1030%size] + "\n\n"
		comes(t, false, s, wholeRequest(len(s), get("A", value, "B", value[:1030%size])))
	}
}

// P5.3

func TestEveryShortHead(t *testing.T) {
	for _, response := range []bool{false, true} {
		first := "A / HTTP/1.0"
		if response {
			first = "HTTP/1.0 100"
		}
		trial.Texts([]string{"\r", "\n", first, "B:", " "}, 6, func(s string) {
			want := read(response, s)
			fed(t, response, want, s)
			fed(t, response, want, single(s)...)
		})
		trial.Texts([]string{"\r\n", "\r", "\n", "B:"}, 4, func(s string) {
			s = first + "\n" + s
			comes(t, response, s, read(response, s))
		})
	}
}

func TestChangedBytes(t *testing.T) {
	see := func(s string) {
		for _, response := range []bool{false, true} {
			want := read(response, s)
			fed(t, response, want, s)
			fed(t, response, want, single(s)...)
		}
	}
	for _, s := range []string{"\r\nA / HTTP/1.1\r\nB: 1\r\nC:2\n\r\n", "\nHTTP/1.1 200 O\nB: 1\r\n\n"} {
		for i := range len(s) {
			for c := range 256 {
				one := string([]byte{byte(c)})
				see(s[:i] + one + s[i:])
				see(s[:i] + one + s[i+1:])
			}
			see(s[:i] + s[i+1:])
		}
	}
}

// A reader's pieces may be of any sizes.
func TestPiecesOfEverySize(t *testing.T) {
	text, l := many(64, "\r\n")
	s := "\r\n\nGET / HTTP/1.1\r\n" + text + "\r\n"
	q := get()
	q.Fields = l
	for size := 1; size <= len(s)+5; size++ {
		var pieces []string
		for rest := s + "GET /"; rest != ""; rest = rest[min(size, len(rest)):] {
			pieces = append(pieces, rest[:min(size, len(rest))])
		}
		fed(t, false, wholeRequest(len(s), q), pieces...)
	}
}

// P5.2, and rule 1

func TestNil(t *testing.T) {
	for _, r := range []*Reader{nil, {}, new(Reader)} {
		for _, s := range []string{"", "\n", "GET / HTTP/1.1\n\n", "HTTP/1.1 200 OK\n\n", strings.Repeat("x", 9000)} {
			if used, done, e := r.Feed([]byte(s)); used != 0 || done || e != api.ErrNil {
				t.Errorf("Feed(%.30q) of none = %d, %v, %d", s, used, done, e)
			}
			isRequest(t, r, api.Request{}, api.ErrNil)
			isResponse(t, r, api.Response{}, api.ErrNil)
		}
	}
}

// written writes over all that a list has, its spare room too.
func written(l []api.Field) {
	l = l[:cap(l)]
	for i := range l {
		l[i] = api.Field{Name: "Written", Value: "over"}
	}
}

func TestToldIsNewMemory(t *testing.T) {
	for _, n := range []int{0, 1, 2, 3, 5, 64} {
		text, l := many(n, "\n")
		q, a := get(), ok()
		q.Fields, a.Fields = l, l
		first, second := New(false), New(true)
		first.Feed([]byte("GET / HTTP/1.1\n" + text + "\n"))
		second.Feed([]byte("HTTP/1.1 200 OK\n" + text + "\n"))
		for range 3 {
			isRequest(t, first, q, api.OK)
			isResponse(t, second, a, api.OK)
			told, _ := first.Request()
			answer, _ := second.Response()
			again, _ := first.Request()
			written(told.Fields)
			written(answer.Fields)
			if !equalRequests(again, q) {
				t.Errorf("two heads that are told share their fields")
			}
		}
	}
}

// Readers know nothing of one another.
func TestTwoReaders(t *testing.T) {
	one, other, answer := New(false), New(false), New(true)
	one.Feed([]byte("GET / HTTP/1.1\nA: "))
	other.Feed([]byte("B\n"))
	answer.Feed([]byte("HTTP/1.1 200 OK\nB: "))
	if used, done, e := one.Feed([]byte("1\n\n")); used != 3 || !done || e != api.OK {
		t.Errorf("%d, %v, %d", used, done, e)
	}
	if used, done, e := answer.Feed([]byte("2\n\n")); used != 3 || !done || e != api.OK {
		t.Errorf("%d, %v, %d", used, done, e)
	}
	isRequest(t, one, get("A", "1"), api.OK)
	isRequest(t, other, api.Request{}, api.ErrState)
	isResponse(t, answer, ok("B", "2"), api.OK)
}
