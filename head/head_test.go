package head_test

import (
	"math"
	"reflect"
	"regexp"
	"slices"
	"strconv"
	"strings"
	"testing"
	"unsafe"

	"conduit/api"
	"conduit/fields"
	"conduit/head"
)

const tokenBytes = "ABCDEFGHIJKLMNOPQRSTUVWXYZabcdefghijklmnopqrstuvwxyz0123456789!#$%&'*+-.^_|~\x60"

// headCap: HeadCap as the document says it.
const headCap = 8192

// pairs: the fields of names and values by turns.
func pairs(texts ...string) []api.Field {
	var list []api.Field
	for i := 0; i < len(texts); i += 2 {
		list = append(list, api.Field{Name: texts[i], Value: texts[i+1]})
	}
	return list
}

func request(method, target string, minor int, list ...string) api.Request {
	return api.Request{Method: method, Target: target, Minor: minor, Fields: pairs(list...)}
}

func response(minor, status int, reason string, list ...string) api.Response {
	return api.Response{Minor: minor, Status: status, Reason: reason, Fields: pairs(list...)}
}

func sameRequest(a, b api.Request) bool {
	return a.Method == b.Method && a.Target == b.Target && a.Minor == b.Minor && slices.Equal(a.Fields, b.Fields)
}

func sameResponse(a, b api.Response) bool {
	return a.Status == b.Status && a.Reason == b.Reason && a.Minor == b.Minor && slices.Equal(a.Fields, b.Fields)
}

// short: a text of which no more than its beginning and its length are told.
func short(s string) string {
	if len(s) > 100 {
		return strconv.Quote(s[:100]) + ".. of " + strconv.Itoa(len(s)) + " bytes"
	}
	return strconv.Quote(s)
}

func wantRequest(t *testing.T, s string, want api.Request, length int, errno api.Errno) {
	t.Helper()
	if got, n, e := head.Request([]byte(s)); !sameRequest(got, want) || n != length || e != errno {
		t.Errorf("Request(%s) = %+v, %d, %d; want %+v, %d, %d", short(s), got, n, e, want, length, errno)
	}
}

func wantResponse(t *testing.T, s string, want api.Response, length int, errno api.Errno) {
	t.Helper()
	if got, n, e := head.Response([]byte(s)); !sameResponse(got, want) || n != length || e != errno {
		t.Errorf("Response(%s) = %+v, %d, %d; want %+v, %d, %d", short(s), got, n, e, want, length, errno)
	}
}

// noRequest: with an error, and where there is no head yet, all else is its zero value.
func noRequest(t *testing.T, errno api.Errno, texts ...string) {
	t.Helper()
	for _, s := range texts {
		wantRequest(t, s, api.Request{}, 0, errno)
	}
}

func noResponse(t *testing.T, errno api.Errno, texts ...string) {
	t.Helper()
	for _, s := range texts {
		wantResponse(t, s, api.Response{}, 0, errno)
	}
}

// noHead: the same for both.
func noHead(t *testing.T, errno api.Errno, texts ...string) {
	t.Helper()
	noRequest(t, errno, texts...)
	noResponse(t, errno, texts...)
}

func wantPrintRequest(t *testing.T, r api.Request, want string, errno api.Errno) {
	t.Helper()
	if got, e := head.PrintRequest(r); string(got) != want || e != errno {
		t.Errorf("PrintRequest(%s %s %d, %d fields) = %s, %d; want %s, %d", short(r.Method), short(r.Target), r.Minor, len(r.Fields), short(string(got)), e, short(want), errno)
	}
}

func wantPrintResponse(t *testing.T, r api.Response, want string, errno api.Errno) {
	t.Helper()
	if got, e := head.PrintResponse(r); string(got) != want || e != errno {
		t.Errorf("PrintResponse(%d %d %s, %d fields) = %s, %d; want %s, %d", r.Minor, r.Status, short(r.Reason), len(r.Fields), short(string(got)), e, short(want), errno)
	}
}

// everyByte: the 256 texts of one byte.
func everyByte() []string {
	var all []string
	for c := range 256 {
		all = append(all, string([]byte{byte(c)}))
	}
	return all
}

// everyText: all texts of at most n parts out of an alphabet of parts.
func everyText(n int, alphabet ...string) []string {
	all := []string{""}
	for from := 0; n > 0; n-- {
		to := len(all)
		for _, s := range all[from:to] {
			for _, part := range alphabet {
				all = append(all, s+part)
			}
		}
		from = to
	}
	return all
}

func isText(s string) bool {
	return s == "\t" || s >= " " && s != "\x7f"
}

func isVisible(s string) bool {
	return s >= "!" && s <= "~"
}

func isDigit(s string) bool {
	return s >= "0" && s <= "9"
}

// filled: the text with as many bytes of filling at its mark that it has n bytes.
func filled(s, filling string, n int) string {
	ahead, behind, _ := strings.Cut(s, "<>")
	return ahead + strings.Repeat(filling, (n-len(ahead)-len(behind))/len(filling)) + behind
}

// The head's end

func TestNoBytes(t *testing.T) {
	for _, b := range [][]byte{nil, {}, []byte("GET / HTTP/1.0\r\n\r\n")[:0]} {
		if r, n, e := head.Request(b); !sameRequest(r, api.Request{}) || n != 0 || e != api.OK {
			t.Errorf("Request(%q) = %+v, %d, %d", b, r, n, e)
		}
		if r, n, e := head.Response(b); !sameResponse(r, api.Response{}) || n != 0 || e != api.OK {
			t.Errorf("Response(%q) = %+v, %d, %d", b, r, n, e)
		}
	}
}

func TestNoHeadYet(t *testing.T) {
	noRequest(t, api.OK, "GET / HTTP/1.1\r\nHost: a\r\n", "GET / HTTP/1.1", "G", "GET / HTTP/1.1\r\nHost: a\r\n\r", "GET / HTTP/1.1\r\nHost: a\n\n")
	noResponse(t, api.OK, "HTTP/1.1 200 OK\r\nA: b\r\n", "H", "HTTP/1.1 200 OK", "HTTP/1.1 200 OK\r\nA: b\r\n\r", "HTTP/1.1 200 OK\n\n")
	// What is wrong isn't told before the end is there.
	noHead(t, api.OK, "\x00", "a\r\n", " \r\n x\r\n", "GET  / HTTP/9\r\n", "GET / HTTP/2.0\r\n", "HTTP/3.0 7\r\n", "\n\n", "\n\r\n\r", "\r\n\n\r\n", "\r\r\n\r\r\n", "\r\n\r")
	for _, whole := range []string{"GET / HTTP/1.1\r\nHost: a\r\nB: c\r\n\r\n", "HTTP/1.1 200 OK\r\nA: b\r\n\r\n", "x\r\ny\r\n\r\n"} {
		for i := range len(whole) {
			noHead(t, api.OK, whole[:i])
		}
	}
}

func TestBytesWithoutAnEnd(t *testing.T) {
	for _, s := range []string{"<>", "GET / HTTP/1.1\r\nHost: <>", "HTTP/1.1 200 <>", "\r<>", "x<>\r\n", "x<>\r\n\r", "\x00<>"} {
		for _, filling := range []string{"a", "\r", "\n", " ", "\xff"} {
			for _, n := range []int{0, 1, 100, headCap - 2, headCap - 1} {
				noHead(t, api.OK, filled(s, filling, max(n, len(s))))
			}
			for _, n := range []int{headCap, headCap + 1, headCap + 2, 2 * headCap, 100000} {
				noHead(t, api.ErrHead, filled(s, filling, n))
			}
		}
	}
}

func TestLongestHeads(t *testing.T) {
	for _, s := range []string{
		"GET / HTTP/1.1\r\nHost: a\r\nX: <>\r\n\r\n", "GET / HTTP/1.1\r\nHost: <>\r\n\r\n", "GET <> HTTP/1.0\r\n\r\n", "<>G / HTTP/1.0\r\n\r\n", "GET / HTTP/1.0\r\n<>: v\r\n\r\n",
	} {
		for _, n := range []int{headCap - 1, headCap} {
			whole := filled(s, "a", n)
			for _, behind := range []string{"", "x", "\r\n\r\n", whole} {
				r, length, e := head.Request([]byte(whole + behind))
				if e != api.OK || length != n {
					t.Errorf("%q: a head of %d bytes: %d, %d", s, n, length, e)
				}
				wantPrintRequest(t, r, whole, api.OK)
			}
		}
		for _, n := range []int{headCap + 1, headCap + 2, headCap + 3, headCap + 4, headCap + 5, 2 * headCap, 100000} {
			noHead(t, api.ErrHead, filled(s, "a", n), filled(s, "a", n)+"x", filled(s, "a", n)+"\r\n\r\n")
		}
	}
	for _, s := range []string{"HTTP/1.1 200 <>\r\n\r\n", "HTTP/1.0 404 No\r\nX: <>\r\n\r\n", "HTTP/1.1 200 \r\n<>: v\r\n\r\n"} {
		for _, n := range []int{headCap - 1, headCap} {
			whole := filled(s, "a", n)
			for _, behind := range []string{"", "x", "\r\n\r\n", whole} {
				r, length, e := head.Response([]byte(whole + behind))
				if e != api.OK || length != n {
					t.Errorf("%q: a head of %d bytes: %d, %d", s, n, length, e)
				}
				wantPrintResponse(t, r, whole, api.OK)
			}
		}
		for _, n := range []int{headCap + 1, headCap + 2, headCap + 3, headCap + 4, headCap + 5, 2 * headCap, 100000} {
			noHead(t, api.ErrHead, filled(s, "a", n), filled(s, "a", n)+"x", filled(s, "a", n)+"\r\n\r\n")
		}
	}
}

// A head above the limit is told ahead of all that is wrong in it, one at the limit isn't told.
func TestTooLongIsToldFirst(t *testing.T) {
	for s, errno := range map[string]api.Errno{
		"<>\r\n\r\n": api.ErrLine, "GET  /<> HTTP/1.1\r\n\r\n": api.ErrLine, "GET /<> HTTP/2.0\r\n\r\n": api.ErrVersion,
		"GET /<> HTTP/1.1\r\n\r\n": api.ErrField, "GET / HTTP/1.0\r\n <>\r\n\r\n": api.ErrFold, "GET / HTTP/1.0\r\n<>\r\n\r\n": api.ErrField,
	} {
		noRequest(t, errno, filled(s, "a", headCap-1), filled(s, "a", headCap), filled(s, "a", headCap)+"\r\n\r\n")
		noRequest(t, api.ErrHead, filled(s, "a", headCap+1), filled(s, "a", headCap+2))
	}
	for s, errno := range map[string]api.Errno{
		"<>\r\n\r\n": api.ErrLine, "HTTP/1.1 20 <>\r\n\r\n": api.ErrLine, "HTTP/2.0 200 <>\r\n\r\n": api.ErrVersion, "HTTP/1.1 600 <>\r\n\r\n": api.ErrStatus,
		"HTTP/1.1 200 \r\n <>\r\n\r\n": api.ErrFold, "HTTP/1.1 200 \r\n<>\r\n\r\n": api.ErrField,
	} {
		noResponse(t, errno, filled(s, "a", headCap-1), filled(s, "a", headCap), filled(s, "a", headCap)+"\r\n\r\n")
		noResponse(t, api.ErrHead, filled(s, "a", headCap+1), filled(s, "a", headCap+2))
	}
}

func TestPairsAhead(t *testing.T) {
	one, whole := request("GET", "/", 1, "Host", "a"), "GET / HTTP/1.1\r\nHost: a\r\n\r\n"
	for n := range 20 {
		ahead := strings.Repeat("\r\n", n)
		wantRequest(t, ahead+whole, one, len(ahead)+len(whole), api.OK)
		wantRequest(t, ahead+whole+"x\r\n\r\n", one, len(ahead)+len(whole), api.OK)
		noRequest(t, api.OK, ahead, ahead+"\r", ahead+"G", ahead+whole[:len(whole)-1], ahead+whole[:len(whole)-2])
		noRequest(t, api.ErrLine, ahead+" "+whole, ahead+"x\r\n\r\n")
	}
	noRequest(t, api.OK, "\r\n\r\n", "\r\n\r\n\r\n\r\n", strings.Repeat("\r\n", headCap/2-1), strings.Repeat("\r\n", headCap/2-1)+"\r")
	noRequest(t, api.ErrHead, strings.Repeat("\r\n", headCap/2), strings.Repeat("\r\n", headCap/2)+"\r", strings.Repeat("\r\n", headCap), strings.Repeat("\r\n", 50000))
}

// The pairs count for the length.
func TestLongestPairsAhead(t *testing.T) {
	for _, whole := range []string{"GET / HTTP/1.0\r\n\r\n", "GET / HTTP/1.0\r\nHost:\r\n\r\n", "G /a HTTP/1.0\r\nA:b\r\n\r\n"} {
		r, length, _ := head.Request([]byte(whole))
		if length != len(whole) {
			t.Fatalf("%q: %d", whole, length)
		}
		for n := headCap/2 - 30; n <= headCap/2+30; n++ {
			s := strings.Repeat("\r\n", n) + whole
			if len(s) <= headCap {
				wantRequest(t, s, r, len(s), api.OK)
				wantRequest(t, s+"behind", r, len(s), api.OK)
			} else {
				noRequest(t, api.ErrHead, s, s+"behind")
			}
		}
	}
}

func TestNoPairsAheadOfAResponse(t *testing.T) {
	whole := "HTTP/1.1 200 OK\r\nA: b\r\n\r\n"
	for n := 1; n < 20; n++ {
		noResponse(t, api.ErrLine, strings.Repeat("\r\n", n)+whole)
	}
	noResponse(t, api.OK, "\r\n", "\r\n\r", "\r\nHTTP/1.1 200 OK\r\n")
	// An end at once.
	noResponse(t, api.ErrLine, "\r\n\r\n", "\r\n\r\n\r\n", "\r\n\r\n"+whole, "\r\n\r\n"+strings.Repeat("a", 2*headCap), strings.Repeat("\r\n", 50000))
}

func TestHalfPairsAhead(t *testing.T) {
	for _, ahead := range []string{"\r", "\n", "\r\r", "\n\n", "\n\r", "\r\r\n", "\n\r\n", "\r\n\r", "\r\n\n", "\r\n\r\n\r", "\r\n\r\n\n", "\n\r\n\r", " \r\n", "\r\n ", "\t"} {
		noRequest(t, api.ErrLine, ahead+"GET / HTTP/1.1\r\nHost: a\r\n\r\n", ahead+"GET / HTTP/1.0\r\n\r\n")
		noResponse(t, api.ErrLine, ahead+"HTTP/1.1 200 OK\r\nA: b\r\n\r\n", ahead+"HTTP/1.1 200 OK\r\n\r\n")
	}
	noRequest(t, api.ErrLine, "\r\r\n\r\n", "\n\r\n\r\n", "\r\n\r\r\n\r\n", "\r\n\n\r\n\r\n")
}

func TestBytesBehindTheEnd(t *testing.T) {
	asked, whole := request("GET", "/", 1, "Host", "a"), "GET / HTTP/1.1\r\nHost: a\r\n\r\n"
	answered, answer := response(1, 200, "OK", "A", "b"), "HTTP/1.1 200 OK\r\nA: b\r\n\r\n"
	behind := []string{"\r\n", "\r\n\r\n", "\n", "body", whole, answer, " x: y\r\n\r\n", "\x00\xff", strings.Repeat("a", headCap), strings.Repeat("\r\n", headCap), strings.Repeat(whole, 1000)}
	for _, s := range append(behind, everyByte()...) {
		wantRequest(t, whole+s, asked, len(whole), api.OK)
		wantResponse(t, answer+s, answered, len(answer), api.OK)
		noRequest(t, api.ErrVersion, "GET / HTTP/2.0\r\n\r\n"+s)
		noResponse(t, api.ErrStatus, "HTTP/1.1 099\r\n\r\n"+s)
	}
}

// Only 13, 10, 13, 10 is an end.
func TestHalfEnds(t *testing.T) {
	for _, end := range []string{"\n\n", "\r\r", "\n\r\n", "\r\n\n", "\r\n\r", "\n\r", "\r\r\n", "\r\n \r\n", "\r\n\t\r\n", "\r\n\x00\r\n"} {
		noRequest(t, api.OK, "GET / HTTP/1.0"+end, "GET / HTTP/1.1\r\nHost: a"+end)
		noResponse(t, api.OK, "HTTP/1.1 200 OK"+end, "HTTP/1.1 200 OK\r\nA: b"+end)
	}
	noRequest(t, api.ErrLine, "GET / HTTP/1.0\n\r\n\r\n", "GET / HTTP/1.0\r\r\n\r\n", "GET / HTTP/1.0\n\n\r\n\r\n", "GET / HTTP/1.0\nA: b\r\n\r\n", "GET / HTTP/1.0\rA: b\r\n\r\n")
	noResponse(t, api.ErrLine, "HTTP/1.1 200 OK\n\r\n\r\n", "HTTP/1.1 200 OK\r\r\n\r\n", "HTTP/1.1 200\n\r\n\r\n", "HTTP/1.1 200 OK\nA: b\r\n\r\n", "HTTP/1.1 200 OK\rA: b\r\n\r\n")
	noRequest(t, api.ErrField, "GET / HTTP/1.0\r\nA: b\n\r\n\r\n", "GET / HTTP/1.0\r\nA: b\r\r\n\r\n", "GET / HTTP/1.0\r\n\n\r\n\r\n", "GET / HTTP/1.0\r\n\r\r\n\r\n")
	noResponse(t, api.ErrField, "HTTP/1.1 200 OK\r\nA: b\n\r\n\r\n", "HTTP/1.1 200 OK\r\nA: b\r\r\n\r\n", "HTTP/1.1 200 OK\r\n\n\r\n\r\n", "HTTP/1.1 200 OK\r\n\r\r\n\r\n")
}

// P5.1: Request

func TestRequest(t *testing.T) {
	for s, want := range map[string]api.Request{
		"GET http://a/ HTTP/1.1\r\nHost: a\r\n\r\n":                         request("GET", "http://a/", 1, "Host", "a"),
		"GET / HTTP/1.0\r\n\r\n":                                            request("GET", "/", 0),
		"GET / HTTP/1.0\r\nHost: a\r\n\r\n":                                 request("GET", "/", 0, "Host", "a"),
		"get * HTTP/1.1\r\nhOST:\r\n\r\n":                                   request("get", "*", 1, "hOST", ""),
		"CONNECT a.org:443 HTTP/1.1\r\nHost: a.org:443\r\n\r\n":             request("CONNECT", "a.org:443", 1, "Host", "a.org:443"),
		"POST /p?q=%20&r HTTP/1.1\r\nA: b\r\nHost:\t c \r\na: \xff\r\n\r\n": request("POST", "/p?q=%20&r", 1, "A", "b", "Host", "c", "a", "\xff"),
		"HTTP HTTP/1.1 HTTP/1.0\r\n\r\n":                                    request("HTTP", "HTTP/1.1", 0),
		"G \"<>\\^\x60{|}~! HTTP/1.0\r\n\r\n":                               request("G", "\"<>\\^\x60{|}~!", 0),
		tokenBytes + " x HTTP/1.0\r\n\r\n":                                  request(tokenBytes, "x", 0),
		"0 0 HTTP/1.0\r\n0:0\r\n\r\n":                                       request("0", "0", 0, "0", "0"),
	} {
		for _, behind := range []string{"", "x", s} {
			wantRequest(t, s+behind, want, len(s), api.OK)
		}
	}
}

func TestRequestExamples(t *testing.T) {
	wantRequest(t, "GET http://a/ HTTP/1.1\r\nHost: a\r\n\r\nx", request("GET", "http://a/", 1, "Host", "a"), 35, api.OK)
	noRequest(t, api.OK, "GET / HTTP/1.1\r\nHost: a\r\n")
	noRequest(t, api.ErrLine, "GET  / HTTP/1.1\r\n\r\n")
	noRequest(t, api.ErrVersion, "GET / HTTP/2.0\r\n\r\n")
	noRequest(t, api.ErrField, "GET / HTTP/1.1\r\n\r\n")
}

func TestWrongRequestLines(t *testing.T) {
	for _, line := range []string{
		"G", "GET", "GET ", "GET /", "GET / ", " ", "  ", "GET  ", " GET / HTTP/1.1", "GET / HTTP/1.1 ", "GET / HTTP/1.1  ", "GET / HTTP/1.1\t", "\tGET / HTTP/1.1",
		"GET  / HTTP/1.1", "GET /  HTTP/1.1", "GET  /  HTTP/1.1", "GET\t/ HTTP/1.1", "GET /\tHTTP/1.1", "GET \t/ HTTP/1.1", "GET /\t HTTP/1.1",
		"GET  HTTP/1.1", " / HTTP/1.1", "  HTTP/1.1", "/ HTTP/1.1", "HTTP/1.1", "GET HTTP/1.1", "HTTP/1.1 HTTP HTTP/1.0", "GET/ HTTP/1.1", "GET /HTTP/1.1", "GET/HTTP/1.1",
		"GET / x HTTP/1.1", "GET / HTTP/1.1 x", "GET / HTTP/1.1 HTTP/1.1", "GET / HTTP/ 1.1", "GET / HTTP /1.1",
		"G/T / HTTP/1.1", "G:T / HTTP/1.1", "\"GET\" / HTTP/1.1", "G\x00T / HTTP/1.1", "GÄT / HTTP/1.1", "G,T / HTTP/1.1", "G\rT / HTTP/1.1", "G\nT / HTTP/1.1",
		"GET /\x00 HTTP/1.1", "GET /ä HTTP/1.1", "GET /\x7f HTTP/1.1", "GET /\xff HTTP/1.1", "GET /\r HTTP/1.1", "GET /\n HTTP/1.1", "GET \r/ HTTP/1.1",
	} {
		noRequest(t, api.ErrLine, line+"\r\n\r\n", line+"\r\nHost: a\r\n\r\n", "\r\n"+line+"\r\nHost: a\r\n\r\nx")
	}
}

func TestVersionsOfRequests(t *testing.T) {
	for _, version := range []string{
		"", "H", "HTTP", "HTTP/", "HTTP/1", "HTTP/1.", "HTTP/.1", "HTTP/1.1.", "HTTP/1.10", "HTTP/1.01", "HTTP/01.1", "HTTP/11.1", "HTTP/1.1.1", "HTTP/10.0",
		"http/1.1", "Http/1.1", "HTTp/1.1", "hTTP/1.1", "HTTP/1,1", "HTTP/1:1", "HTTP/11", "HTTP/1", "HTTP1.1", "HTTP//1.1", "HTTPS/1.1", "XHTTP/1.1", "HTP/1.1", "HTTQ/1.1",
		"HTTP/-1.1", "HTTP/+1.1", "HTTP/1.-1", "HTTP/a.1", "HTTP/1.a", "HTTP/1.1x", "HTTP/x.y", "HTTP\\1.1", "HTTP/\xb11.1", "HTTP/1.\xb1", "HTTP/1.1\x00", "ICY/1.1", "1.1", "HTTP/١.١",
	} {
		noRequest(t, api.ErrLine, "GET / "+version+"\r\n\r\n", "GET / "+version+"\r\nHost: a\r\n\r\n", "GET / "+version+"\r\n x\r\n\r\n")
		noResponse(t, api.ErrLine, version+" 200 OK\r\n\r\n", version+" 200\r\nA: b\r\n\r\n", version+" 999 \r\n x\r\n\r\n")
	}
	for first := range 10 {
		for second := range 10 {
			version := "HTTP/" + strconv.Itoa(first) + "." + strconv.Itoa(second)
			asked, answered := "GET / "+version+"\r\nHost: a\r\n\r\n", version+" 200 OK\r\nA: b\r\n\r\n"
			if first == 1 && second < 2 {
				wantRequest(t, asked, request("GET", "/", second, "Host", "a"), len(asked), api.OK)
				wantResponse(t, answered, response(second, 200, "OK", "A", "b"), len(answered), api.OK)
			} else {
				noRequest(t, api.ErrVersion, asked)
				noResponse(t, api.ErrVersion, answered)
			}
		}
	}
}

func TestEachByteOfAVersion(t *testing.T) {
	version := "HTTP/1.1"
	for _, s := range everyByte() {
		for i := range len(version) {
			changed := version[:i] + s + version[i+1:]
			var errno api.Errno
			switch {
			case changed == version, changed == "HTTP/1.0":
				errno = api.OK
			case i != len("HTTP/") && i != len("HTTP/1."), !isDigit(s):
				errno = api.ErrLine
			default:
				errno = api.ErrVersion
			}
			if errno != api.OK {
				noRequest(t, errno, "GET / "+changed+"\r\nHost: a\r\n\r\n")
				noResponse(t, errno, changed+" 200 OK\r\n\r\n")
			}
		}
		for i := range len(version) + 1 {
			noRequest(t, api.ErrLine, "GET / "+version[:i]+s+version[i:]+"\r\nHost: a\r\n\r\n")
		}
	}
}

func TestEachByteOfAMethodAndATarget(t *testing.T) {
	for _, s := range everyByte() {
		for _, part := range []string{s, s + "a", "a" + s, "a" + s + "b"} {
			whole := part + " / HTTP/1.0\r\n\r\n"
			if strings.Contains(tokenBytes, s) {
				wantRequest(t, whole, request(part, "/", 0), len(whole), api.OK)
			} else {
				noRequest(t, api.ErrLine, whole)
			}
			whole = "GET " + part + " HTTP/1.0\r\n\r\n"
			if isVisible(s) {
				wantRequest(t, whole, request("GET", part, 0), len(whole), api.OK)
			} else {
				noRequest(t, api.ErrLine, whole)
			}
		}
		if s != " " {
			noRequest(t, api.ErrLine, "GET"+s+"/ HTTP/1.0\r\n\r\n", "GET /"+s+"HTTP/1.0\r\n\r\n")
		}
	}
}

func TestHosts(t *testing.T) {
	for _, c := range []struct {
		block string
		hosts int
	}{
		{"", 0}, {"A: b\r\n", 0}, {"Hosts: a\r\n", 0}, {"Hos: a\r\n", 0}, {"X-Host: a\r\n", 0}, {"A: Host\r\nB: Host: c\r\n", 0}, {"Ho-st: a\r\n", 0},
		{"Host: a\r\n", 1}, {"host: a\r\n", 1}, {"HOST: a\r\n", 1}, {"hOsT:a\r\n", 1}, {"Host:\r\n", 1}, {"Host: \r\n", 1}, {"Host: a b\r\n", 1}, {"Host: a, b\r\n", 1}, {"A: b\r\nHost: a\r\nC: d\r\n", 1},
		{"Host: a\r\nHost: a\r\n", 2}, {"Host: a\r\nhost: a\r\n", 2}, {"hOST: a\r\nHost: b\r\n", 2}, {"Host:\r\nHost:\r\n", 2}, {"host: a\r\nX: y\r\nHOST: a\r\n", 2},
		{"Host: a\r\nHost: a\r\nHost: a\r\n", 3},
	} {
		list, _ := fields.Parse([]byte(c.block))
		for minor := range 2 {
			s := "GET http://a/ HTTP/1." + strconv.Itoa(minor) + "\r\n" + c.block + "\r\n"
			if c.hosts > 1 || c.hosts == 0 && minor == 1 {
				noRequest(t, api.ErrField, s)
			} else {
				wantRequest(t, s, api.Request{Method: "GET", Target: "http://a/", Minor: minor, Fields: list}, len(s), api.OK)
			}
			// A response needs no Host, and may have any number.
			s = "HTTP/1." + strconv.Itoa(minor) + " 200 OK\r\n" + c.block + "\r\n"
			wantResponse(t, s, api.Response{Status: 200, Reason: "OK", Minor: minor, Fields: list}, len(s), api.OK)
		}
	}
}

func TestWrongFields(t *testing.T) {
	hundred := strings.Repeat("a: b\r\n", 100)
	for block, errno := range map[string]api.Errno{
		" a: b\r\n": api.ErrFold, "\ta: b\r\n": api.ErrFold, "Host: a\r\n b\r\n": api.ErrFold, " \r\n": api.ErrFold,
		"a\r\n": api.ErrField, ": b\r\n": api.ErrField, "A : b\r\n": api.ErrField, "a: \x00\r\n": api.ErrField, "a: b\rc\r\n": api.ErrField, "a: b\nc: d\r\n": api.ErrField, "Host: a\r\nä: b\r\n": api.ErrField,
		hundred + "a: b\r\n": api.ErrMany, "Host: x\r\n" + hundred: api.ErrMany, hundred + "Host: x\r\n": api.ErrMany, "Host: x\r\nHost: x\r\n" + hundred: api.ErrMany,
		"Host: a\r\nHost: a\r\n b\r\n": api.ErrFold, hundred + " b\r\n": api.ErrFold, hundred + "b\r\n": api.ErrField,
	} {
		for _, minor := range []string{"0", "1"} {
			noRequest(t, errno, "GET / HTTP/1."+minor+"\r\n"+block+"\r\n", "\r\nGET / HTTP/1."+minor+"\r\n"+block+"\r\nx")
			noResponse(t, errno, "HTTP/1."+minor+" 200 OK\r\n"+block+"\r\n", "HTTP/1."+minor+" 200\r\n"+block+"\r\nx")
		}
	}
	whole := "GET / HTTP/1.1\r\nHost: x\r\n" + strings.Repeat("a: b\r\n", 99) + "\r\n"
	wantRequest(t, whole, api.Request{Method: "GET", Target: "/", Minor: 1, Fields: append(pairs("Host", "x"), slices.Repeat(pairs("a", "b"), 99)...)}, len(whole), api.OK)
	whole = "HTTP/1.1 200 OK\r\n" + hundred + "\r\n"
	wantResponse(t, whole, api.Response{Status: 200, Reason: "OK", Minor: 1, Fields: slices.Repeat(pairs("a", "b"), 100)}, len(whole), api.OK)
}

// faults: parts of a head, and by which error each alone is told; api.OK where it is sound.
type faults map[string]api.Errno

// The order of the sentences: the line, the version, the fields, the Host.
func TestWhichErrorOfARequest(t *testing.T) {
	lines := faults{"GET / ": api.OK, "GET  / ": api.ErrLine, "G/T / ": api.ErrLine, "GET \x80 ": api.ErrLine}
	versions := faults{"HTTP/1.1": api.OK, "HTTP/1": api.ErrLine, "http/2.0": api.ErrLine, "HTTP/2.0": api.ErrVersion, "HTTP/1.2": api.ErrVersion}
	blocks := faults{"": api.OK, "x: y\r\n": api.OK, "x: y\r\n f\r\n": api.ErrFold, "x\r\n": api.ErrField, strings.Repeat("x: y\r\n", 101): api.ErrMany}
	hosts := faults{"Host: a\r\n": api.OK, "Hosts: a\r\n": api.ErrField, "Host: a\r\nhost: b\r\n": api.ErrField}
	for line, ofLine := range lines {
		for version, ofVersion := range versions {
			for block, ofBlock := range blocks {
				for host, ofHost := range hosts {
					want := api.OK
					for _, errno := range []api.Errno{ofLine, ofVersion, ofBlock, ofHost} {
						if want == api.OK || errno == api.ErrLine {
							want = errno
						}
					}
					if want != api.OK {
						noRequest(t, want, line+version+"\r\n"+host+block+"\r\n")
					}
				}
			}
		}
	}
}

// P5.2: Response

func TestResponse(t *testing.T) {
	for s, want := range map[string]api.Response{
		"HTTP/1.1 200\r\n\r\n":                                  response(1, 200, ""),
		"HTTP/1.1 200 \r\n\r\n":                                 response(1, 200, ""),
		"HTTP/1.1 200 OK\r\n\r\n":                               response(1, 200, "OK"),
		"HTTP/1.0 404 Not Found\r\nA: b\r\n\r\n":                response(0, 404, "Not Found", "A", "b"),
		"HTTP/1.1 100 Continue\r\n\r\n":                         response(1, 100, "Continue"),
		"HTTP/1.1 599 200\r\n\r\n":                              response(1, 599, "200"),
		"HTTP/1.1 200  OK \r\n\r\n":                             response(1, 200, " OK "),
		"HTTP/1.1 200 \t\r\n\r\n":                               response(1, 200, "\t"),
		"HTTP/1.1 200   \r\n\r\n":                               response(1, 200, "  "),
		"HTTP/1.1 200 \xff\x80ä\"\\:\r\n\r\n":                   response(1, 200, "\xff\x80ä\"\\:"),
		"HTTP/1.0 304\r\nhost: a\r\nHost: a\r\nE:\r\n\r\n":      response(0, 304, "", "host", "a", "Host", "a", "E", ""),
		"HTTP/1.1 200 HTTP/1.0 404 no\r\nHTTP: 1.1 200\r\n\r\n": response(1, 200, "HTTP/1.0 404 no", "HTTP", "1.1 200"),
	} {
		for _, behind := range []string{"", "x", s} {
			wantResponse(t, s+behind, want, len(s), api.OK)
		}
	}
}

func TestResponseExample(t *testing.T) {
	wantResponse(t, "HTTP/1.1 200\r\n\r\n", response(1, 200, ""), 16, api.OK)
}

func TestEachNumberOfAStatus(t *testing.T) {
	for n := range 1000 {
		digits := strconv.Itoa(1000 + n)[1:]
		for line, reason := range map[string]string{digits: "", digits + " ": "", digits + " x y": "x y"} {
			whole := "HTTP/1.1 " + line + "\r\n\r\n"
			if n >= 100 && n <= 599 {
				wantResponse(t, whole, response(1, n, reason), len(whole), api.OK)
			} else {
				noResponse(t, api.ErrStatus, whole)
			}
		}
	}
}

func TestWrongResponseLines(t *testing.T) {
	for _, line := range []string{
		"x", "HTTP/1.1", "HTTP/1.1 ", "HTTP/1.1  ", "HTTP/1.1 2", "HTTP/1.1 20", "HTTP/1.1 2000", "HTTP/1.1 0200", "HTTP/1.1 20 OK", "HTTP/1.1 2000 OK", "HTTP/1.1 00200 OK", "HTTP/1.1 2 0 0",
		"HTTP/1.1  200 OK", "HTTP/1.1 \t200 OK", "HTTP/1.1\t200 OK", "HTTP/1.1 200\tOK", "HTTP/1.1 200\t", "HTTP/1.1200 OK", "HTTP/1.1 200OK", "HTTP/1.1 200-OK", " HTTP/1.1 200 OK", "\tHTTP/1.1 200 OK",
		"HTTP/1.1 +20 OK", "HTTP/1.1 -20 OK", "HTTP/1.1 -200 OK", "HTTP/1.1 2.0 OK", "HTTP/1.1 0x1 OK", "HTTP/1.1 1e2 OK", "HTTP/1.1 abc OK", "HTTP/1.1 OK", "HTTP/1.1 OK 200", "HTTP/1.1 2_0 OK", "HTTP/1.1 ²00 OK", "HTTP/1.1 \xb200 OK",
		"200 OK", "HTTP 200 OK", "200 HTTP/1.1", "GET / HTTP/1.1", "ICY 200 OK",
		"HTTP/1.1 200 \x00", "HTTP/1.1 200 O\x01K", "HTTP/1.1 200 OK\x7f", "HTTP/1.1 200 O\rK", "HTTP/1.1 200 O\nK", "HTTP/1.1 200 \x1f", "HTTP/1.1 200\x00", "HTTP/1.1 200\r", "HTTP/1.1 200 OK\r",
	} {
		noResponse(t, api.ErrLine, line+"\r\n\r\n", line+"\r\nA: b\r\n\r\n", line+"\r\n\r\nx", line+"\r\n f\r\n\r\n")
	}
}

func TestEachByteOfAReasonAndAStatus(t *testing.T) {
	for _, s := range everyByte() {
		for _, reason := range []string{s, s + "a", "a" + s, "a" + s + "b", "a" + s + s} {
			whole := "HTTP/1.0 299 " + reason + "\r\n\r\n"
			if isText(s) {
				wantResponse(t, whole, response(0, 299, reason), len(whole), api.OK)
			} else {
				noResponse(t, api.ErrLine, whole)
			}
		}
		if !isDigit(s) {
			noResponse(t, api.ErrLine, "HTTP/1.1 "+s+"20\r\n\r\n", "HTTP/1.1 2"+s+"0\r\n\r\n", "HTTP/1.1 20"+s+"\r\n\r\n", "HTTP/1.1 20"+s+" OK\r\n\r\n")
		}
		if s != " " {
			noResponse(t, api.ErrLine, "HTTP/1.1"+s+"200 OK\r\n\r\n", "HTTP/1.1 200"+s+"OK\r\n\r\n", "HTTP/1.1 200"+s+"\r\n\r\n")
		}
	}
}

// The order of the sentences: the line, the version, the status, the fields.
func TestWhichErrorOfAResponse(t *testing.T) {
	versions := faults{"HTTP/1.1 ": api.OK, "HTTP/1.1\t": api.ErrLine, "HTTP/2.0 ": api.ErrVersion, "HTTP/1.9 ": api.ErrVersion}
	digits := faults{"200": api.OK, "20": api.ErrLine, "2x0": api.ErrLine, "1000": api.ErrLine, "099": api.ErrStatus, "600": api.ErrStatus, "000": api.ErrStatus}
	reasons := faults{"": api.OK, " ": api.OK, " OK": api.OK, " \x00": api.ErrLine, " O\rK": api.ErrLine, "OK": api.ErrLine}
	blocks := faults{"": api.OK, "x: y\r\n": api.OK, "x: y\r\n f\r\n": api.ErrFold, "x\r\n": api.ErrField, strings.Repeat("x: y\r\n", 101): api.ErrMany}
	for version, ofVersion := range versions {
		for three, ofDigits := range digits {
			for reason, ofReason := range reasons {
				for block, ofBlock := range blocks {
					want := api.OK
					for _, errno := range []api.Errno{ofVersion, ofDigits, ofReason, ofBlock} {
						if want == api.OK || errno == api.ErrLine {
							want = errno
						}
					}
					if want != api.OK {
						noResponse(t, want, version+three+reason+"\r\n"+block+"\r\n")
					}
				}
			}
		}
	}
}

// An oracle for both, made of patterns; the bytes are taken as the runes of their numbers, for patterns go by runes.

var (
	endsAhead  = regexp.MustCompile(`^(?:\r\n)*`)
	wholeHead  = regexp.MustCompile(`^(?s)(.*?\r\n)\r\n`)
	askLine    = regexp.MustCompile("^([-!#$%&'*+.^_|~\x600-9A-Za-z]+) ([!-~]+) HTTP/([0-9][.][0-9])\r\n")
	answerLine = regexp.MustCompile("^HTTP/([0-9][.][0-9]) ([0-9]{3})(?: ([\t -~\u0080-\u00ff]*))?\r\n")
	hostLine   = regexp.MustCompile(`(?i)(?:^|\r\n)host:`)
)

func bytesAsRunes(s string) string {
	var all []rune
	for i := range len(s) {
		all = append(all, rune(s[i]))
	}
	return string(all)
}

func runesAsBytes(s string) string {
	var all []byte
	for _, r := range s {
		all = append(all, byte(r))
	}
	return string(all)
}

// minors: the second digits of the two versions.
func minors() map[string]int {
	return map[string]int{"1.0": 0, "1.1": 1}
}

// oracleHead: the head's first line and block as runes, and its length in bytes.
func oracleHead(s string, ahead string) (string, int, api.Errno) {
	whole := wholeHead.FindStringSubmatch(bytesAsRunes(s)[len(ahead):])
	if whole == nil {
		if len(s) < headCap {
			return "", 0, api.OK
		}
		return "", 0, api.ErrHead
	}
	if length := len(ahead) + len(runesAsBytes(whole[0])); length <= headCap {
		return whole[1], length, api.OK
	}
	return "", 0, api.ErrHead
}

func oracleRequest(s string) (api.Request, int, api.Errno) {
	whole, length, e := oracleHead(s, endsAhead.FindString(s))
	if length == 0 {
		return api.Request{}, 0, e
	}
	line := askLine.FindStringSubmatch(whole)
	if line == nil {
		return api.Request{}, 0, api.ErrLine
	}
	minor, known := minors()[line[3]]
	if !known {
		return api.Request{}, 0, api.ErrVersion
	}
	block := whole[len(line[0]):]
	list, e := fields.Parse([]byte(runesAsBytes(block)))
	if e != api.OK {
		return api.Request{}, 0, e
	}
	if hosts := len(hostLine.FindAllString(block, -1)); hosts > 1 || hosts < minor {
		return api.Request{}, 0, api.ErrField
	}
	return api.Request{Method: line[1], Target: line[2], Minor: minor, Fields: list}, length, api.OK
}

func oracleResponse(s string) (api.Response, int, api.Errno) {
	whole, length, e := oracleHead(s, "")
	if length == 0 {
		return api.Response{}, 0, e
	}
	line := answerLine.FindStringSubmatch(whole)
	if line == nil {
		return api.Response{}, 0, api.ErrLine
	}
	minor, known := minors()[line[1]]
	if !known {
		return api.Response{}, 0, api.ErrVersion
	}
	status, _ := strconv.Atoi(line[2])
	if !strings.Contains("12345", line[2][:1]) {
		return api.Response{}, 0, api.ErrStatus
	}
	list, e := fields.Parse([]byte(runesAsBytes(whole[len(line[0]):])))
	if e != api.OK {
		return api.Response{}, 0, e
	}
	return api.Response{Status: status, Reason: runesAsBytes(line[3]), Minor: minor, Fields: list}, length, api.OK
}

func wantAsOracle(t *testing.T, s string) {
	t.Helper()
	asked, length, errno := oracleRequest(s)
	wantRequest(t, s, asked, length, errno)
	answered, length, errno := oracleResponse(s)
	wantResponse(t, s, answered, length, errno)
}

func TestAllShortTexts(t *testing.T) {
	for _, s := range everyText(6, "G", " ", "\r\n", "\r", "\n", "HTTP/1.0", "200") {
		wantAsOracle(t, s)
	}
}

func TestAllShortRequestLines(t *testing.T) {
	for _, s := range everyText(6, "G", "/", " ", "\t", "HTTP/1.0", "HTTP/1.1", "HTTP/7.3", "\xff") {
		wantAsOracle(t, s+"\r\n\r\n")
	}
}

func TestAllShortResponseLines(t *testing.T) {
	for _, s := range everyText(6, "2", "09", " ", "\t", "6", "a", "\x00", "\xff") {
		wantAsOracle(t, "HTTP/1.1"+s+"\r\n\r\n")
	}
	for _, s := range everyText(5, "HTTP/", "1", ".", "0", " ", "http/") {
		wantAsOracle(t, s+" 200\r\n\r\n")
		wantAsOracle(t, "G / "+s+"\r\n\r\n")
	}
}

func TestAllShortRowsOfLines(t *testing.T) {
	fifty := strings.Repeat("n:\r\n", 50)
	for _, first := range []string{"G / HTTP/1.0\r\n", "G / HTTP/1.1\r\n", "HTTP/1.1 200 OK\r\n", "\r\nG / HTTP/1.1\r\n"} {
		for _, s := range everyText(5, "Host: a\r\n", "hoST:\r\n", "A: b\r\n", " f\r\n", "x\r\n", "\r\n", fifty) {
			wantAsOracle(t, first+s+"\r\n")
		}
	}
}

func FuzzHead(f *testing.F) {
	f.Add("\r\nGET http://a/ HTTP/1.1\r\nHost: a\r\n\r\nx")
	f.Add("HTTP/1.1 200 OK\r\nA: b\r\n\r\nx")
	f.Add("GET / HTTP/1.0\r\n\r\n")
	f.Fuzz(func(t *testing.T, s string) {
		wantAsOracle(t, s)
		wantAsOracle(t, s+"\r\n\r\n")
		wantAsOracle(t, "GET / HTTP/1.1\r\n"+s+"\r\n\r\n")
		wantAsOracle(t, "HTTP/1.1 "+s+"\r\n\r\n")
	})
}

// P5.3: PrintRequest

func TestPrintRequest(t *testing.T) {
	for want, r := range map[string]api.Request{
		"GET / HTTP/1.1\r\nHost: a\r\n\r\n":          request("GET", "/", 1, "Host", "a"),
		"GET / HTTP/1.1\r\n\r\n":                     request("GET", "/", 1),
		"GET / HTTP/1.0\r\n\r\n":                     request("GET", "/", 0),
		"g * HTTP/1.0\r\nA: \r\na: b c\r\n\r\n":      request("g", "*", 0, "A", "", "a", "b c"),
		"P http://a/?b HTTP/1.1\r\nX: \xff\r\n\r\n":  request("P", "http://a/?b", 1, "X", "\xff"),
		"G / HTTP/1.1\r\nHost: a\r\nHost: b\r\n\r\n": request("G", "/", 1, "Host", "a", "Host", "b"), // the Hosts aren't counted
		tokenBytes + " !~ HTTP/1.1\r\n\r\n":          request(tokenBytes, "!~", 1),
	} {
		wantPrintRequest(t, r, want, api.OK)
	}
	wantPrintRequest(t, api.Request{Method: "G", Target: "/", Fields: []api.Field{}}, "G / HTTP/1.0\r\n\r\n", api.OK)
}

func TestPrintRequestOfWrongLines(t *testing.T) {
	for _, r := range []api.Request{
		{}, {Target: "/"}, {Method: "G"}, request("", "/", 1), request("G", "", 1), request(" ", "/", 1), request("G", " ", 1), request("G T", "/", 1), request("G", "/ x", 1), request("G", "/\t", 1),
		request("G", "/\r\nA: b", 1), request("G\r\n", "/", 1), request("G:", "/", 1), request("G", "/ä", 1), request("Ä", "/", 1), request("G", "\x7f", 1), request("G", "\x00", 1), request("\x00", "/", 1),
		request("G", "/", 2), request("G", "/", -1), request("G", "/", 10), request("G", "/", 11), request("G", "/", math.MaxInt64), request("G", "/", math.MinInt64), request("G", "/", 1<<32), request("G", "/", 1<<32+1), request("G", "/", 256),
	} {
		wantPrintRequest(t, r, "", api.ErrLine)
		r.Fields = pairs("Host", "a")
		wantPrintRequest(t, r, "", api.ErrLine)
		r.Fields = pairs("", "a")
		wantPrintRequest(t, r, "", api.ErrLine)
		r.Fields = slices.Repeat(pairs("a", "b"), 101)
		wantPrintRequest(t, r, "", api.ErrLine)
		r.Fields = pairs("a", strings.Repeat("b", headCap))
		wantPrintRequest(t, r, "", api.ErrLine)
	}
}

func TestPrintRequestOfEachByte(t *testing.T) {
	for _, s := range everyByte() {
		for _, part := range []string{s, s + "a", "a" + s, "a" + s + "b"} {
			if strings.Contains(tokenBytes, s) {
				wantPrintRequest(t, request(part, "/", 0), part+" / HTTP/1.0\r\n\r\n", api.OK)
			} else {
				wantPrintRequest(t, request(part, "/", 0), "", api.ErrLine)
			}
			if isVisible(s) {
				wantPrintRequest(t, request("G", part, 1), "G "+part+" HTTP/1.1\r\n\r\n", api.OK)
			} else {
				wantPrintRequest(t, request("G", part, 1), "", api.ErrLine)
			}
		}
	}
}

// wrongLists: lists of fields that aren't printed, and which error tells so.
func wrongLists() map[api.Errno][][]api.Field {
	many, long := slices.Repeat(pairs("a", "b"), 101), strings.Repeat("b", headCap)
	return map[api.Errno][][]api.Field{
		api.ErrField: {
			pairs("", ""), pairs("a b", ""), pairs("a:", "b"), pairs("a", " b"), pairs("a", "b\t"), pairs("a", "b\r\nc: d"), pairs("a", "\x00"), pairs("a", "b", "ä", "c"), pairs("\r\n", ""),
			slices.Concat(many, pairs("a", "b ")), slices.Concat(pairs("a", long, "b", " "), many), pairs("a", long+" "),
		},
		api.ErrMany: {many, slices.Repeat(pairs("a", "b"), 1000), slices.Concat(pairs("a", long), many), slices.Repeat(pairs("a", strings.Repeat("b", 100)), 101)},
		api.ErrHead: {pairs("a", long), pairs(long, ""), pairs("a", long+long), slices.Repeat(pairs("a", strings.Repeat("b", 100)), 100)},
	}
}

func TestPrintOfWrongFields(t *testing.T) {
	for errno, lists := range wrongLists() {
		for _, list := range lists {
			wantPrintRequest(t, api.Request{Method: "G", Target: "/", Minor: 1, Fields: list}, "", errno)
			wantPrintResponse(t, api.Response{Status: 200, Reason: "OK", Minor: 1, Fields: list}, "", errno)
		}
	}
	// The fields' errors are told ahead of the length.
	long := strings.Repeat("x", headCap)
	for _, errno := range []api.Errno{api.ErrField, api.ErrMany} {
		for _, list := range wrongLists()[errno] {
			wantPrintRequest(t, api.Request{Method: long, Target: long, Minor: 1, Fields: list}, "", errno)
			wantPrintResponse(t, api.Response{Status: 200, Reason: long, Minor: 1, Fields: list}, "", errno)
		}
	}
}

func TestPrintOfAHundredFields(t *testing.T) {
	list, lines := slices.Repeat(pairs("a", "b"), 100), strings.Repeat("a: b\r\n", 100)
	wantPrintRequest(t, api.Request{Method: "G", Target: "/", Minor: 1, Fields: list}, "G / HTTP/1.1\r\n"+lines+"\r\n", api.OK)
	wantPrintResponse(t, api.Response{Status: 200, Reason: "OK", Minor: 1, Fields: list}, "HTTP/1.1 200 OK\r\n"+lines+"\r\n", api.OK)
}

func TestPrintRequestOfTheLongestHeads(t *testing.T) {
	for _, n := range []int{headCap - 1, headCap, headCap + 1, headCap + 2, 2 * headCap, 100000} {
		for _, c := range []struct {
			whole string
			make  func(filling string) api.Request
		}{
			{"G /<> HTTP/1.1\r\n\r\n", func(s string) api.Request { return request("G", "/"+s, 1) }},
			{"G<> / HTTP/1.0\r\n\r\n", func(s string) api.Request { return request("G"+s, "/", 0) }},
			{"G / HTTP/1.1\r\nA: b<>\r\n\r\n", func(s string) api.Request { return request("G", "/", 1, "A", "b"+s) }},
			{"G / HTTP/1.1\r\nA<>: b\r\nc: d\r\n\r\n", func(s string) api.Request { return request("G", "/", 1, "A"+s, "b", "c", "d") }},
		} {
			want, errno := filled(c.whole, "x", n), api.OK
			r := c.make(strings.Repeat("x", n-len(c.whole)+len("<>")))
			if n > headCap {
				want, errno = "", api.ErrHead
			}
			wantPrintRequest(t, r, want, errno)
		}
	}
}

// P5.4: PrintResponse

func TestPrintResponse(t *testing.T) {
	for want, r := range map[string]api.Response{
		"HTTP/1.0 204 \r\n\r\n":                       response(0, 204, ""),
		"HTTP/1.1 204 \r\n\r\n":                       response(1, 204, ""),
		"HTTP/1.1 200 OK\r\nA: b\r\n\r\n":             response(1, 200, "OK", "A", "b"),
		"HTTP/1.1 404 Not Found\r\n\r\n":              response(1, 404, "Not Found"),
		"HTTP/1.1 200  OK \r\nA: \r\na: \xff\r\n\r\n": response(1, 200, " OK ", "A", "", "a", "\xff"),
		"HTTP/1.0 100 \t\xff\x80\r\n\r\n":             response(0, 100, "\t\xff\x80"),
		"HTTP/1.0 599 599\r\n\r\n":                    response(0, 599, "599"),
	} {
		wantPrintResponse(t, r, want, api.OK)
	}
	wantPrintResponse(t, api.Response{Status: 200, Fields: []api.Field{}}, "HTTP/1.0 200 \r\n\r\n", api.OK)
}

func TestPrintResponseOfWrongLines(t *testing.T) {
	for _, r := range []api.Response{
		response(2, 200, ""), response(-1, 200, "OK"), response(10, 200, ""), response(11, 200, ""), response(1<<32, 200, ""), response(1<<32+1, 200, ""), response(256, 200, ""), response(math.MaxInt64, 200, ""), response(math.MinInt64, 200, ""),
		response(1, 200, "\x00"), response(1, 200, "O\rK"), response(1, 200, "O\nK"), response(1, 200, "OK\r\n"), response(1, 200, "OK\r\nA: b"), response(1, 200, "\x7f"), response(1, 200, "\x1f"), response(0, 200, "a\x0b"),
	} {
		for _, status := range []int{200, 99, 600, 0, -1} {
			for _, list := range [][]api.Field{nil, pairs("A", "b"), pairs("", ""), slices.Repeat(pairs("a", "b"), 101), pairs("a", strings.Repeat("b", headCap))} {
				r.Status, r.Fields = status, list
				wantPrintResponse(t, r, "", api.ErrLine)
			}
		}
	}
}

func TestPrintResponseOfEachStatus(t *testing.T) {
	for status := -1000; status <= 3000; status++ {
		if status >= 100 && status <= 599 {
			wantPrintResponse(t, response(1, status, "x"), "HTTP/1.1 "+strconv.Itoa(status)+" x\r\n\r\n", api.OK)
		} else {
			wantPrintResponse(t, response(1, status, "x"), "", api.ErrStatus)
		}
	}
	for _, status := range []int{math.MaxInt64, math.MinInt64, 1<<32 + 200, 1<<16 + 200, 1<<63 - 200, -200} {
		wantPrintResponse(t, response(1, status, ""), "", api.ErrStatus)
	}
	// The status is told ahead of the fields and of the length.
	for _, list := range [][]api.Field{pairs("", ""), slices.Repeat(pairs("a", "b"), 101), pairs("a", strings.Repeat("b", headCap))} {
		for _, status := range []int{99, 600} {
			wantPrintResponse(t, api.Response{Status: status, Minor: 1, Fields: list}, "", api.ErrStatus)
			wantPrintResponse(t, api.Response{Status: status, Reason: strings.Repeat("x", headCap), Fields: list}, "", api.ErrStatus)
		}
	}
}

func TestPrintResponseOfEachByte(t *testing.T) {
	for _, s := range everyByte() {
		for _, reason := range []string{s, s + "a", "a" + s, "a" + s + "b", s + s} {
			if isText(s) {
				wantPrintResponse(t, response(1, 200, reason), "HTTP/1.1 200 "+reason+"\r\n\r\n", api.OK)
			} else {
				wantPrintResponse(t, response(1, 200, reason), "", api.ErrLine)
			}
		}
	}
}

func TestPrintResponseOfTheLongestHeads(t *testing.T) {
	for _, n := range []int{headCap - 1, headCap, headCap + 1, headCap + 2, 2 * headCap, 100000} {
		for _, c := range []struct {
			whole string
			make  func(filling string) api.Response
		}{
			{"HTTP/1.1 200 <>\r\n\r\n", func(s string) api.Response { return response(1, 200, s) }},
			{"HTTP/1.0 200 \r\nA: b<>\r\n\r\n", func(s string) api.Response { return response(0, 200, "", "A", "b"+s) }},
			{"HTTP/1.1 599 OK\r\nA<>: b\r\nc: d\r\n\r\n", func(s string) api.Response { return response(1, 599, "OK", "A"+s, "b", "c", "d") }},
		} {
			want, errno := filled(c.whole, "x", n), api.OK
			r := c.make(strings.Repeat("x", n-len(c.whole)+len("<>")))
			if n > headCap {
				want, errno = "", api.ErrHead
			}
			wantPrintResponse(t, r, want, errno)
		}
	}
}

// What is written is read as it was, and what could not be read so isn't written.

func TestWrittenRequestsAreReadAgain(t *testing.T) {
	parts := everyText(2, "G", "/", " ", "\r\n", ":", "\xff")
	for _, method := range parts {
		for _, target := range parts {
			for minor := -1; minor < 3; minor++ {
				r := request(method, target, minor, "Host", "a", "b", "")
				want, length, errno := oracleRequest(method + " " + target + " HTTP/1." + strconv.Itoa(minor) + "\r\nHost: a\r\nb: \r\n\r\n")
				good := errno == api.OK && length > 0 && sameRequest(want, r)
				b, e := head.PrintRequest(r)
				if good != (e == api.OK) {
					t.Fatalf("PrintRequest(%+v): %d", r, e)
				}
				if good {
					wantRequest(t, string(b), r, len(b), api.OK)
					wantRequest(t, "\r\n"+string(b)+"x", r, len(b)+2, api.OK)
				}
			}
		}
	}
}

func TestWrittenResponsesAreReadAgain(t *testing.T) {
	for _, reason := range everyText(3, "O", " ", "\t", "\r", "\n", "\xff", "\x00", "2") {
		for _, status := range []int{-200, 0, 99, 100, 200, 599, 600, 1000, 2000} {
			for minor := -1; minor < 3; minor++ {
				r := response(minor, status, reason, "a", "b", "a", "")
				want, length, errno := oracleResponse("HTTP/1." + strconv.Itoa(minor) + " " + strconv.Itoa(status) + " " + reason + "\r\na: b\r\na: \r\n\r\n")
				good := errno == api.OK && length > 0 && sameResponse(want, r)
				b, e := head.PrintResponse(r)
				if good != (e == api.OK) {
					t.Fatalf("PrintResponse(%+v): %d", r, e)
				}
				if good {
					wantResponse(t, string(b), r, len(b), api.OK)
					wantResponse(t, string(b)+"x", r, len(b), api.OK)
				}
			}
		}
	}
}

// P5.5, rule 5

// withRoom: a copy of list in memory that goes on behind its length, and the whole memory.
func withRoom[T any](list []T, filling T) ([]T, []T) {
	whole := slices.Concat(list, slices.Repeat([]T{filling}, 8))
	return whole[:len(list)], whole
}

// someHeads: heads of both kinds, sound ones, wrong ones, and ones that haven't ended.
func someHeads() []string {
	return []string{
		"", "\r\n", "\r", "GET / HTTP/1.0\r\n\r\n", "\r\n\r\nGET / HTTP/1.1\r\nHost: a\r\nX:\t Y \r\n\r\nbody", "GET / HTTP/1.1\r\nHost: a\r\n\r", "GET / HTTP/1.1\r\nHost: a\r\n",
		"GET / HTTP/1.1\r\n\r\n", "GET  / HTTP/1.1\r\n\r\n", "GET / HTTP/2.0\r\n\r\n", "GET / HTTP/1.1\r\n F\r\n\r\n",
		"HTTP/1.1 200 OK\r\nA: B\r\nC:\r\n\r\nbody", "HTTP/1.1 200\r\n\r\n", "HTTP/1.1 099\r\n\r\n", "HTTP/1.1 200 OK\r\nA: B\r\n", "HTTP/1.1 200 OK\r\nA\r\n\r\n",
		strings.Repeat("A", headCap-1), strings.Repeat("A", headCap), strings.Repeat("\r\n", headCap),
	}
}

func TestTheBytesStayAsTheyWere(t *testing.T) {
	for _, s := range someHeads() {
		for _, filling := range []byte("\n\rA \x00") {
			b, memory := withRoom([]byte(s), filling)
			before := slices.Clone(memory)
			asked, length, errno := head.Request(b)
			if want, n, e := oracleRequest(s); !sameRequest(asked, want) || length != n || errno != e {
				t.Errorf("Request(%s) = %+v, %d, %d with %q behind it", short(s), asked, length, errno, filling)
			}
			answered, length, errno := head.Response(b)
			if want, n, e := oracleResponse(s); !sameResponse(answered, want) || length != n || errno != e {
				t.Errorf("Response(%s) = %+v, %d, %d with %q behind it", short(s), answered, length, errno, filling)
			}
			if !slices.Equal(memory, before) {
				t.Errorf("%s changed", short(s))
			}
		}
	}
}

func TestTheFieldsStayAsTheyWere(t *testing.T) {
	for _, as := range [][]api.Field{
		nil, pairs("Host", "A"), pairs("A", "b", "c", ""), pairs("A", " b"), pairs("", ""), pairs("a", strings.Repeat("b", headCap)), slices.Repeat(pairs("A", "B"), 100), slices.Repeat(pairs("A", "B"), 101),
	} {
		list, memory := withRoom(as, api.Field{Name: "Behind", Value: "It"})
		before := slices.Clone(memory)
		for minor := range 3 {
			head.PrintRequest(api.Request{Method: "GET", Target: "/", Minor: minor, Fields: list})
			head.PrintResponse(api.Response{Status: 200, Reason: "OK", Minor: minor, Fields: list})
			head.PrintResponse(api.Response{Status: 99, Reason: "OK", Minor: minor, Fields: list})
		}
		if !slices.Equal(memory, before) {
			t.Errorf("%q became %q", before, memory)
		}
	}
}

func within(part, whole string) bool {
	if part == "" || whole == "" {
		return false
	}
	p, w := uintptr(unsafe.Pointer(unsafe.StringData(part))), uintptr(unsafe.Pointer(unsafe.StringData(whole)))
	return p >= w && p < w+uintptr(len(whole))
}

// apart: none of the answers lies in the memory of what was handed in.
func apart(t *testing.T, whole string, answers ...string) {
	t.Helper()
	for _, answer := range answers {
		if within(answer, whole) {
			t.Errorf("%q lies in the memory of what was handed in", answer)
		}
	}
}

func allTexts(list []api.Field) []string {
	var texts []string
	for _, field := range list {
		texts = append(texts, field.Name, field.Value)
	}
	return texts
}

func asText(b []byte) string {
	return unsafe.String(unsafe.SliceData(b), len(b))
}

// overwrite: fills the list and its spare room.
func overwrite[T any](list []T, with T) {
	list = list[:cap(list)]
	for i := range list {
		list[i] = with
	}
}

func TestReadHeadsShareNothingWithTheBytes(t *testing.T) {
	b := []byte("\r\nGET http://a/ HTTP/1.1\r\nHost: a\r\nName: value\r\n\r\nbody")
	asked, _, _ := head.Request(b)
	apart(t, asText(b), append(allTexts(asked.Fields), asked.Method, asked.Target)...)
	overwrite(b, 'x')
	if want := request("GET", "http://a/", 1, "Host", "a", "Name", "value"); !sameRequest(asked, want) {
		t.Errorf("the request changed with the bytes: %+v", asked)
	}
	b = []byte("HTTP/1.1 404 Not Found\r\nHost: a\r\nName: value\r\n\r\nbody")
	answered, _, _ := head.Response(b)
	apart(t, asText(b), append(allTexts(answered.Fields), answered.Reason)...)
	overwrite(b, 'x')
	if want := response(1, 404, "Not Found", "Host", "a", "Name", "value"); !sameResponse(answered, want) {
		t.Errorf("the response changed with the bytes: %+v", answered)
	}
}

func TestPrintedBytesShareNothing(t *testing.T) {
	asked := request(strings.Clone("GET"), strings.Clone("http://a/"), 1, strings.Clone("Host"), strings.Clone("some-value"))
	one, _ := head.PrintRequest(asked)
	two, _ := head.PrintRequest(asked)
	overwrite(one, 'x')
	if string(two) != "GET http://a/ HTTP/1.1\r\nHost: some-value\r\n\r\n" || !sameRequest(asked, request("GET", "http://a/", 1, "Host", "some-value")) {
		t.Errorf("%q and %+v changed with what was printed", two, asked)
	}
	answered := response(1, 200, strings.Clone("OK then"), strings.Clone("Name"), strings.Clone("some-value"))
	one, _ = head.PrintResponse(answered)
	two, _ = head.PrintResponse(answered)
	overwrite(one, 'x')
	if string(two) != "HTTP/1.1 200 OK then\r\nName: some-value\r\n\r\n" || !sameResponse(answered, response(1, 200, "OK then", "Name", "some-value")) {
		t.Errorf("%q and %+v changed with what was printed", two, answered)
	}
}

func TestListsOfTwoAnswersShareNothing(t *testing.T) {
	b := []byte("GET / HTTP/1.1\r\nHost: a\r\nB: c\r\nD: e\r\n\r\n")
	one, _, _ := head.Request(b)
	two, _, _ := head.Request(b)
	overwrite(one.Fields, api.Field{Name: "x", Value: "x"})
	if !sameRequest(two, request("GET", "/", 1, "Host", "a", "B", "c", "D", "e")) {
		t.Errorf("a request changed with another one: %+v", two)
	}
	b = []byte("HTTP/1.1 200 OK\r\nA: a\r\nB: c\r\nD: e\r\n\r\n")
	first, _, _ := head.Response(b)
	second, _, _ := head.Response(b)
	overwrite(first.Fields, api.Field{Name: "x", Value: "x"})
	if !sameResponse(second, response(1, 200, "OK", "A", "a", "B", "c", "D", "e")) {
		t.Errorf("a response changed with another one: %+v", second)
	}
}

// P1 and P2: no call panics, and each answers the same twice.
func TestCallsEndAndAnswerTheSameTwice(t *testing.T) {
	type answer struct {
		asked                      api.Request
		answered                   api.Response
		printedAsk, printedAnswer  []byte
		askLength, answerLength    int
		askErr, answerErr          api.Errno
		printAskErr, printReplyErr api.Errno
	}
	ask := func(s string, n int) answer {
		var a answer
		a.asked, a.askLength, a.askErr = head.Request([]byte(s))
		a.answered, a.answerLength, a.answerErr = head.Response([]byte(s))
		a.printedAsk, a.printAskErr = head.PrintRequest(api.Request{Method: s, Target: s, Minor: n, Fields: pairs("a", s)})
		a.printedAnswer, a.printReplyErr = head.PrintResponse(api.Response{Status: 200 * n, Reason: s, Minor: n, Fields: pairs(s, s)})
		return a
	}
	texts := slices.Concat(everyText(4, "G", " ", "HTTP/1.1", "\r\n", "\r", "200", "\xff", "\x00"), everyByte(), someHeads())
	for _, s := range texts {
		for _, n := range []int{0, 1, -1, math.MaxInt64, math.MinInt64} {
			if one, two := ask(s, n), ask(s, n); !reflect.DeepEqual(one, two) {
				t.Fatalf("%q: %+v, then %+v", s, one, two)
			}
		}
	}
}
