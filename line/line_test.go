package line

import (
	"math"
	"regexp"
	"strconv"
	"strings"
	"testing"

	"gatepost/api"
	"gatepost/trial"
)

// The chapter's lines as patterns, which these tests hold the package against.
var (
	requestForm = regexp.MustCompile("^([!#$%&'*+.^_`|~0-9A-Za-z-]+) ([!-~]+) HTTP/1\\.([01])$")
	statusForm  = regexp.MustCompile(`^HTTP/1\.([01]) ([1-5][0-9][0-9])( [^\x00-\x08\x0a-\x1f\x7f]*)?$`)
	targetForm  = regexp.MustCompile(`^[!-~]+$`)
	absolute    = regexp.MustCompile(`^[hH][tT][tT][pP]://([^/?]+)(.*)$`)
)

// asRequest and asStatus hold Request and Status of any text against the patterns.
func asRequest(t *testing.T, s string) {
	t.Helper()
	method, target, minor, e := Request(s)
	m := requestForm.FindStringSubmatch(trial.Wide(s))
	switch {
	case len(s) > api.MaxLine:
		isRequest(t, s, "", "", 0, api.ErrBig, method, target, minor, e)
	case m == nil:
		isRequest(t, s, "", "", 0, api.ErrLine, method, target, minor, e)
	default:
		isRequest(t, s, m[1], m[2], int(m[3][0]-'0'), api.OK, method, target, minor, e)
		if line, e := RequestLine(method, target, minor); e != api.OK || line != s {
			t.Errorf("%q is told anew as %q, %d", s, line, e)
		}
	}
}

func isRequest(t *testing.T, s, wantMethod, wantTarget string, wantMinor int, wantE api.Errno, method, target string, minor int, e api.Errno) {
	t.Helper()
	if method != wantMethod || target != wantTarget || minor != wantMinor || e != wantE {
		t.Errorf("Request(%q) = %q, %q, %d, %d, not %q, %q, %d, %d", s, method, target, minor, e, wantMethod, wantTarget, wantMinor, wantE)
	}
}

func asStatus(t *testing.T, s string) {
	t.Helper()
	minor, code, reason, e := Status(s)
	m := statusForm.FindStringSubmatch(trial.Wide(s))
	switch {
	case len(s) > api.MaxLine:
		isStatus(t, s, 0, 0, "", api.ErrBig, minor, code, reason, e)
	case m == nil:
		isStatus(t, s, 0, 0, "", api.ErrLine, minor, code, reason, e)
	default:
		wantCode, _ := strconv.Atoi(m[2])
		isStatus(t, s, int(m[1][0]-'0'), wantCode, strings.TrimPrefix(trial.Narrow(m[3]), " "), api.OK, minor, code, reason, e)
		want := s
		if m[3] == "" {
			want += " "
		}
		if line, e := StatusLine(minor, code, reason); e != api.OK || line != want {
			t.Errorf("%q is told anew as %q, %d", s, line, e)
		}
	}
}

func isStatus(t *testing.T, s string, wantMinor, wantCode int, wantReason string, wantE api.Errno, minor, code int, reason string, e api.Errno) {
	t.Helper()
	if minor != wantMinor || code != wantCode || reason != wantReason || e != wantE {
		t.Errorf("Status(%q) = %d, %d, %q, %d, not %d, %d, %q, %d", s, minor, code, reason, e, wantMinor, wantCode, wantReason, wantE)
	}
}

// P3.1

func TestRequest(t *testing.T) {
	for _, c := range []struct {
		s, method, target string
		minor             int
	}{
		{"GET /a HTTP/1.1", "GET", "/a", 1},
		{"GET /a HTTP/1.0", "GET", "/a", 0},
		{"purge * HTTP/1.1", "purge", "*", 1},
		{"M-x!~ http://h:8?x HTTP/1.0", "M-x!~", "http://h:8?x", 0},
		{"a \"<>\\^`{|} HTTP/1.1", "a", "\"<>\\^`{|}", 1},
	} {
		method, target, minor, e := Request(c.s)
		isRequest(t, c.s, c.method, c.target, c.minor, api.OK, method, target, minor, e)
	}
}

func TestRequestThatIsNone(t *testing.T) {
	for _, s := range []string{
		"", " ", "  ", "   ", "GET", "GET ", "GET /a", "GET /a ", "GET HTTP/1.1", "GET  HTTP/1.1", " /a HTTP/1.1",
		"GET /a b HTTP/1.1", "GET /a HTTP/1.1 x", "GET /a HTTP/1.1 ", " GET /a HTTP/1.1",
		"GET  /a HTTP/1.1", "GET /a  HTTP/1.1", "GET\t/a HTTP/1.1", "GET /a\tHTTP/1.1",
		"GET /a HTTP/1.2", "GET /a HTTP/2.0", "GET /a HTTP/0.9", "GET /a HTTP/1.10", "GET /a HTTP/1.01", "GET /a HTTP/1.",
		"GET /a http/1.1", "GET /a Http/1.1", "GET /a HTTP/1,1", "GET /a HTTP/1.-1", "GET /a HTTP/1.+1",
		"GET /a HTTP/1.1\r", "GET /a HTTP/1.1\n", "GET /a HTTP/1.1\x00",
		"G(T /a HTTP/1.1", "GET: /a HTTP/1.1", "G\x80T /a HTTP/1.1", "GET /\x7f HTTP/1.1", "GET /\x80 HTTP/1.1", "GET /\x1f HTTP/1.1",
	} {
		method, target, minor, e := Request(s)
		isRequest(t, s, "", "", 0, api.ErrLine, method, target, minor, e)
	}
}

func TestRequestOfChangedBytes(t *testing.T) {
	for _, s := range []string{"GET /a HTTP/1.1", "P /?x=1 HTTP/1.0", "a * HTTP/1.1"} {
		trial.Changed(s, func(s string) { asRequest(t, s) })
	}
}

func TestRequestOfManyBytes(t *testing.T) {
	for _, n := range []int{api.MaxLine - 1, api.MaxLine, api.MaxLine + 1, 2 * api.MaxLine} {
		asRequest(t, "GET /"+strings.Repeat("a", n-len("GET / HTTP/1.1"))+" HTTP/1.1")
		asRequest(t, strings.Repeat("a", n-len(" / HTTP/1.1"))+" / HTTP/1.1")
		asRequest(t, strings.Repeat(" ", n))
		asRequest(t, strings.Repeat("a", n))
	}
	whole := "GET /" + strings.Repeat("a", api.MaxLine-len("GET / HTTP/1.1")) + " HTTP/1.1"
	if _, _, _, e := Request(whole); len(whole) != api.MaxLine || e != api.OK {
		t.Error(len(whole), e)
	}
	method, target, minor, e := Request(strings.Repeat(" ", api.MaxLine+1))
	isRequest(t, "blanks", "", "", 0, api.ErrBig, method, target, minor, e)
}

// P3.2

func TestStatus(t *testing.T) {
	for _, c := range []struct {
		s           string
		minor, code int
		reason      string
	}{
		{"HTTP/1.1 200 OK", 1, 200, "OK"},
		{"HTTP/1.0 404 Not Found", 0, 404, "Not Found"},
		{"HTTP/1.1 200", 1, 200, ""},
		{"HTTP/1.1 200 ", 1, 200, ""},
		{"HTTP/1.1 200  ", 1, 200, " "},
		{"HTTP/1.1 200  OK ", 1, 200, " OK "},
		{"HTTP/1.1 100 \t", 1, 100, "\t"},
		{"HTTP/1.1 599 \x80\xff~", 1, 599, "\x80\xff~"},
	} {
		minor, code, reason, e := Status(c.s)
		isStatus(t, c.s, c.minor, c.code, c.reason, api.OK, minor, code, reason, e)
	}
}

func TestStatusThatIsNone(t *testing.T) {
	for _, s := range []string{
		"", " ", "HTTP/1.1", "HTTP/1.1 ", "HTTP/1.1  ", "HTTP/1.1  200", "HTTP/1.1\t200 OK", "HTTP/1.1 200\tOK", "HTTP/1.1 200OK",
		"HTTP/1.1 20 OK", "HTTP/1.1 2000 OK", "HTTP/1.1 0200 OK", "HTTP/1.1 20x OK", "HTTP/1.1 +20 OK", "HTTP/1.1 -20 OK", "HTTP/1.1 2.0 OK",
		"HTTP/1.1 99", "HTTP/1.1 099 OK", "HTTP/1.1 000 OK", "HTTP/1.1 600 OK", "HTTP/1.1 999 OK",
		"HTTP/1.2 200 OK", "HTTP/2.0 200 OK", "http/1.1 200 OK", " HTTP/1.1 200 OK", "1.1 200 OK",
		"HTTP/1.1 200 a\x00", "HTTP/1.1 200 a\x08", "HTTP/1.1 200 a\n", "HTTP/1.1 200 a\r", "HTTP/1.1 200 \x1f", "HTTP/1.1 200 \x7f",
	} {
		minor, code, reason, e := Status(s)
		isStatus(t, s, 0, 0, "", api.ErrLine, minor, code, reason, e)
	}
}

func TestStatusOfEveryCode(t *testing.T) {
	for code := range 1200 {
		digits := strconv.Itoa(code)
		for _, s := range []string{digits, "0" + digits, "00" + digits} {
			asStatus(t, "HTTP/1.1 "+s)
			asStatus(t, "HTTP/1.0 "+s+" ")
			asStatus(t, "HTTP/1.1 "+s+" why")
		}
	}
}

func TestStatusOfChangedBytes(t *testing.T) {
	for _, s := range []string{"HTTP/1.1 200 OK", "HTTP/1.0 503 ", "HTTP/1.1 100", "HTTP/1.1 404 Not Found"} {
		trial.Changed(s, func(s string) { asStatus(t, s) })
	}
}

func TestStatusOfManyBytes(t *testing.T) {
	for _, n := range []int{api.MaxLine - 1, api.MaxLine, api.MaxLine + 1, 2 * api.MaxLine} {
		asStatus(t, "HTTP/1.1 200 "+strings.Repeat("a", n-len("HTTP/1.1 200 ")))
		asStatus(t, "HTTP/1.1 200 "+strings.Repeat("\x00", n-len("HTTP/1.1 200 ")))
		asStatus(t, strings.Repeat("a", n))
	}
	whole := "HTTP/1.1 200 " + strings.Repeat("a", api.MaxLine-len("HTTP/1.1 200 "))
	if _, _, _, e := Status(whole); len(whole) != api.MaxLine || e != api.OK {
		t.Error(len(whole), e)
	}
	minor, code, reason, e := Status(whole + "\x00")
	isStatus(t, "a byte more", 0, 0, "", api.ErrBig, minor, code, reason, e)
}

// P3.3

func isPath(t *testing.T, target, wantPath, wantHost string, wantOk bool) {
	t.Helper()
	if path, host, ok := Path(target); path != wantPath || host != wantHost || ok != wantOk {
		t.Errorf("Path(%q) = %q, %q, %v, not %q, %q, %v", target, path, host, ok, wantPath, wantHost, wantOk)
	}
}

// asPath holds Path against the patterns.
func asPath(t *testing.T, target string) {
	t.Helper()
	if !targetForm.MatchString(trial.Wide(target)) {
		isPath(t, target, "", "", false)
		return
	}
	if target[0] == '/' || target == "*" {
		isPath(t, target, target, "", true)
		return
	}
	m := absolute.FindStringSubmatch(target)
	switch {
	case m == nil:
		isPath(t, target, "", "", false)
	case strings.HasPrefix(m[2], "/"):
		isPath(t, target, m[2], m[1], true)
	default:
		isPath(t, target, "/"+m[2], m[1], true)
	}
}

func TestPath(t *testing.T) {
	for _, c := range []struct{ target, path, host string }{
		{"/", "/", ""},
		{"/a?b", "/a?b", ""},
		{"//h/a", "//h/a", ""},
		{"/http://h/a", "/http://h/a", ""},
		{"*", "*", ""},
		{"http://h:8?x", "/?x", "h:8"},
		{"http://h/a/b?c", "/a/b?c", "h"},
		{"http://h", "/", "h"},
		{"http://h/", "/", "h"},
		{"http://h?", "/?", "h"},
		{"http://h?/", "/?/", "h"},
		{"http://h//", "//", "h"},
		{"http://h/?", "/?", "h"},
		{"HTTP://H/a", "/a", "H"},
		{"hTtP://*", "/", "*"},
		{"http://:", "/", ":"},
		{"http://http://", "//", "http:"},
	} {
		isPath(t, c.target, c.path, c.host, true)
	}
}

func TestPathOfNone(t *testing.T) {
	for _, target := range []string{
		"", "a", "?", "?a", "**", "*/", "*a", "h:80", "http", "http:", "http:/", "http://", "http:///", "http:///a", "http://?", "http://?a",
		"https://h/a", "ftp://h/a", "http:/h/a", "xhttp://h/a", "h\x54tp:\\\\h", "http//h/a", "HTTP:", "HTTP://", "HTTP:///h",
		" /a", "/a ", "/a b", "/\x7f", "/\x80", "/\x1f", "http://h ", "http://\x80", "http://h/\xff", "* ", "\t*", "\x00",
	} {
		isPath(t, target, "", "", false)
	}
}

func TestPathOfChangedBytes(t *testing.T) {
	for _, target := range []string{"/a", "*", "http://h/a", "HTTP://h?b", "http://h", "http://", "http:///", "http://?"} {
		trial.Changed(target, func(s string) { asPath(t, s) })
	}
}

func TestPathOfEveryShortEnd(t *testing.T) {
	const alphabet = "/?h*:#\x7f "
	var all func(s string, more int)
	all = func(s string, more int) {
		asPath(t, s)
		for i := range len(alphabet) {
			if more > 0 {
				all(s+alphabet[i:i+1], more-1)
			}
		}
	}
	all("", 4)
	all("http:/", 4)
	all("HtTp://", 4)
}

// A target's length is its line's to ask for, not Path's.
func TestPathOfManyBytes(t *testing.T) {
	long := "/" + strings.Repeat("a", 3*api.MaxLine)
	isPath(t, long, long, "", true)
	isPath(t, "http://h"+long, long, "h", true)
}

// P3.4

func isLine(t *testing.T, got string, e api.Errno, want string, wantE api.Errno) {
	t.Helper()
	if got != want || e != wantE {
		t.Errorf("the line is %q, %d, not %q, %d", got, e, want, wantE)
	}
}

func TestRequestLine(t *testing.T) {
	long := strings.Repeat("a", 2*api.MaxLine)
	for _, c := range []struct {
		method, target string
		minor          int
		want           string
		e              api.Errno
	}{
		{"GET", "/a", 1, "GET /a HTTP/1.1", api.OK},
		{"get", "*", 0, "get * HTTP/1.0", api.OK},
		{"", "/a", 1, "", api.ErrArg},
		{"G T", "/a", 1, "", api.ErrArg},
		{"GET ", "/a", 1, "", api.ErrArg},
		{"G\x80", "/a", 1, "", api.ErrArg},
		{"GET", "", 1, "", api.ErrArg},
		{"GET", "/a ", 1, "", api.ErrArg},
		{"GET", "/a\r\n", 1, "", api.ErrArg},
		{"GET", "/\x7f", 1, "", api.ErrArg},
		{"GET", "/\x80", 1, "", api.ErrArg},
		{"GET", "/a", -1, "", api.ErrArg},
		{"GET", "/a", 2, "", api.ErrArg},
		{"GET", "/a", 10, "", api.ErrArg},
		{"GET", "/a", math.MaxInt, "", api.ErrArg},
		{"GET", "/a", math.MinInt, "", api.ErrArg},
		{"GET", long, 1, "", api.ErrBig},
		{long, "/a", 1, "", api.ErrBig},
		{long, "/a", 2, "", api.ErrArg},
		{long, "", 1, "", api.ErrArg},
		{"", long, 1, "", api.ErrArg},
		{"GET", long + " ", 1, "", api.ErrArg},
	} {
		got, e := RequestLine(c.method, c.target, c.minor)
		isLine(t, got, e, c.want, c.e)
	}
}

func TestStatusLine(t *testing.T) {
	long := strings.Repeat("a", 2*api.MaxLine)
	for _, c := range []struct {
		minor, code int
		reason      string
		want        string
		e           api.Errno
	}{
		{1, 200, "OK", "HTTP/1.1 200 OK", api.OK},
		{0, 404, "Not Found", "HTTP/1.0 404 Not Found", api.OK},
		{1, 200, "", "HTTP/1.1 200 ", api.OK},
		{1, 200, " ", "HTTP/1.1 200  ", api.OK},
		{1, 100, "\t", "HTTP/1.1 100 \t", api.OK},
		{1, 599, "\x80\xff~", "HTTP/1.1 599 \x80\xff~", api.OK},
		{-1, 200, "OK", "", api.ErrArg},
		{2, 200, "OK", "", api.ErrArg},
		{math.MinInt, 200, "OK", "", api.ErrArg},
		{math.MaxInt, 200, "OK", "", api.ErrArg},
		{1, 99, "OK", "", api.ErrArg},
		{1, 600, "OK", "", api.ErrArg},
		{1, 0, "OK", "", api.ErrArg},
		{1, -200, "OK", "", api.ErrArg},
		{1, 1000, "OK", "", api.ErrArg},
		{1, math.MinInt, "OK", "", api.ErrArg},
		{1, math.MaxInt, "OK", "", api.ErrArg},
		{1, 200, "\x08", "", api.ErrArg},
		{1, 200, "a\r\n", "", api.ErrArg},
		{1, 200, "\x1f", "", api.ErrArg},
		{1, 200, "\x7f", "", api.ErrArg},
		{1, 200, "\x00", "", api.ErrArg},
		{1, 200, long, "", api.ErrBig},
		{2, 200, long, "", api.ErrArg},
		{1, 600, long, "", api.ErrArg},
		{1, 200, long + "\x7f", "", api.ErrArg},
	} {
		got, e := StatusLine(c.minor, c.code, c.reason)
		isLine(t, got, e, c.want, c.e)
	}
}

func TestLinesOfMaxLine(t *testing.T) {
	room := api.MaxLine - len("GET / HTTP/1.1")
	target := "/" + strings.Repeat("a", room)
	got, e := RequestLine("GET", target, 1)
	isLine(t, got, e, "GET "+target+" HTTP/1.1", api.OK)
	got, e = RequestLine("GET", target+"a", 1)
	isLine(t, got, e, "", api.ErrBig)

	reason := strings.Repeat("a", api.MaxLine-len("HTTP/1.1 200 "))
	got, e = StatusLine(1, 200, reason)
	isLine(t, got, e, "HTTP/1.1 200 "+reason, api.OK)
	got, e = StatusLine(1, 200, reason+"a")
	isLine(t, got, e, "", api.ErrBig)
}

// P3.5: asRequest and asStatus tell anew each line that they read; here parts are told, and read again.

func TestRequestLineIsReadAsItWas(t *testing.T) {
	for _, method := range []string{"GET", "", "a b", "!", "GE\x7f", "P"} {
		for c := range 256 {
			for minor := -2; minor < 4; minor++ {
				target := "/" + string([]byte{byte(c)})
				s, e := RequestLine(method, target, minor)
				if e != api.OK {
					isLine(t, s, e, "", api.ErrArg)
					continue
				}
				gotMethod, gotTarget, gotMinor, e := Request(s)
				isRequest(t, s, method, target, minor, api.OK, gotMethod, gotTarget, gotMinor, e)
			}
		}
	}
}

func TestStatusLineIsReadAsItWas(t *testing.T) {
	for _, reason := range []string{"", " ", "OK", " OK ", "a\x80", "\t", "\n", "\x7f"} {
		for code := -100; code < 1200; code++ {
			for minor := -2; minor < 4; minor++ {
				s, e := StatusLine(minor, code, reason)
				if e != api.OK {
					isLine(t, s, e, "", api.ErrArg)
					continue
				}
				gotMinor, gotCode, gotReason, e := Status(s)
				isStatus(t, s, minor, code, reason, api.OK, gotMinor, gotCode, gotReason, e)
			}
		}
	}
}

// A byte 32 ahead of no reason is all that telling adds.
func TestStatusWithoutReasonIsToldWithOneByteMore(t *testing.T) {
	for _, s := range []string{"HTTP/1.1 200", "HTTP/1.1 200 "} {
		minor, code, reason, e := Status(s)
		isStatus(t, s, 1, 200, "", api.OK, minor, code, reason, e)
		line, e := StatusLine(minor, code, reason)
		isLine(t, line, e, "HTTP/1.1 200 ", api.OK)
	}
}
