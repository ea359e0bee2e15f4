package inbox_test

import (
	"bytes"
	"reflect"
	"slices"
	"strconv"
	"strings"
	"testing"
	"unsafe"

	"conduit/api"
	"conduit/chunk"
	"conduit/fields"
	"conduit/frame"
	"conduit/head"
	"conduit/inbox"
)

// The limits as the document says them.
const (
	bodyCap  = 65536
	headCap  = 8192
	fieldCap = 100
)

// pairs: the fields of names and values by turns.
func pairs(texts ...string) []api.Field {
	var list []api.Field
	for i := 0; i < len(texts); i += 2 {
		list = append(list, api.Field{Name: texts[i], Value: texts[i+1]})
	}
	return list
}

// short: a text of which no more than its beginning and its length are told.
func short(s string) string {
	if len(s) > 200 {
		return strconv.Quote(s[:200]) + ".. of " + strconv.Itoa(len(s)) + " bytes"
	}
	return strconv.Quote(s)
}

// told: a message in few words.
func told(m api.Message) string {
	s := m.Req.Method + " " + short(m.Req.Target) + " " + strconv.Itoa(m.Req.Minor) + ", " + strconv.Itoa(m.Resp.Status) + " " + m.Resp.Reason + " " + strconv.Itoa(m.Resp.Minor)
	return s + ", " + strconv.Itoa(len(m.Req.Fields)) + " and " + strconv.Itoa(len(m.Resp.Fields)) + " fields, body " + short(string(m.Body)) + ", " + strconv.Itoa(len(m.Trailers)) + " trailers"
}

// same: are the messages alike? A nil list and an empty one are the same.
func same(a, b api.Message) bool {
	return a.Req.Method == b.Req.Method && a.Req.Target == b.Req.Target && a.Req.Minor == b.Req.Minor && slices.Equal(a.Req.Fields, b.Req.Fields) &&
		a.Resp.Status == b.Resp.Status && a.Resp.Reason == b.Resp.Reason && a.Resp.Minor == b.Resp.Minor && slices.Equal(a.Resp.Fields, b.Resp.Fields) &&
		bytes.Equal(a.Body, b.Body) && slices.Equal(a.Trailers, b.Trailers)
}

func wantRequest(t *testing.T, s string, m api.Message, length int, errno api.Errno) {
	t.Helper()
	if got, n, e := inbox.Request([]byte(s)); !same(got, m) || n != length || e != errno {
		t.Errorf("Request(%s) = %s, %d, %d; want %s, %d, %d", short(s), told(got), n, e, told(m), length, errno)
	}
}

func wantResponse(t *testing.T, s, method string, ended bool, m api.Message, length int, errno api.Errno) {
	t.Helper()
	if got, n, e := inbox.Response([]byte(s), method, ended); !same(got, m) || n != length || e != errno {
		t.Errorf("Response(%s, %q, %v) = %s, %d, %d; want %s, %d, %d", short(s), method, ended, told(got), n, e, told(m), length, errno)
	}
}

func wantExpects(t *testing.T, want bool, texts ...string) {
	t.Helper()
	for _, s := range texts {
		if inbox.Expects([]byte(s)) != want {
			t.Errorf("Expects(%s) = %v", short(s), !want)
		}
	}
}

// behinds: what may stand behind a message.
func behinds() []string {
	return []string{"", "x", "\r\n", "\n", "\r\n\r\n", "0\r\n\r\n", "\x00\xff", "GET / HTTP/1.1\r\nHost: a\r\n\r\n", "HTTP/1.1 200 OK\r\n\r\n", strings.Repeat("y", 2*headCap), strings.Repeat("z", bodyCap+1)}
}

// beginnings: the beginnings of a text that aren't all of it; of a long one some.
func beginnings(s string) []string {
	var all []string
	for i := 0; i < len(s)-1; i += 1 + len(s)/300 {
		all = append(all, s[:i])
	}
	return append(all, s[:len(s)-1])
}

// moreRequest: where more is needed all is its zero value.
func moreRequest(t *testing.T, texts ...string) {
	t.Helper()
	for _, s := range texts {
		wantRequest(t, s, api.Message{}, 0, api.OK)
	}
}

// wholeRequest: the text is one request, whatever stands behind it, and no beginning of it is one.
func wholeRequest(t *testing.T, s string, m api.Message) {
	t.Helper()
	for _, behind := range behinds() {
		wantRequest(t, s+behind, m, len(s), api.OK)
	}
	moreRequest(t, beginnings(s)...)
}

// wrongRequest: with an error all else is its zero value, and what comes later changes nothing of it.
func wrongRequest(t *testing.T, errno api.Errno, texts ...string) {
	t.Helper()
	for _, s := range texts {
		for _, behind := range behinds() {
			wantRequest(t, s+behind, api.Message{}, 0, errno)
		}
	}
}

// moreResponse: where more is needed all is its zero value, and that is ErrCut where nothing comes any more.
func moreResponse(t *testing.T, method string, texts ...string) {
	t.Helper()
	for _, s := range texts {
		wantResponse(t, s, method, false, api.Message{}, 0, api.OK)
		wantResponse(t, s, method, true, api.Message{}, 0, api.ErrCut)
	}
}

// wholeResponse: the text is one response, whatever stands behind it, ended or not, and no beginning of it is one.
func wholeResponse(t *testing.T, s, method string, m api.Message) {
	t.Helper()
	for _, behind := range behinds() {
		wantResponse(t, s+behind, method, false, m, len(s), api.OK)
		wantResponse(t, s+behind, method, true, m, len(s), api.OK)
	}
	moreResponse(t, method, beginnings(s)...)
}

// wrongResponse: with an error all else is its zero value, and neither what comes later nor that nothing comes changes anything of it.
func wrongResponse(t *testing.T, errno api.Errno, method string, texts ...string) {
	t.Helper()
	for _, s := range texts {
		for _, behind := range behinds() {
			wantResponse(t, s+behind, method, false, api.Message{}, 0, errno)
			wantResponse(t, s+behind, method, true, api.Message{}, 0, errno)
		}
	}
}

// everyByte: the 256 texts of one byte.
func everyByte() []string {
	var all []string
	for c := range 256 {
		all = append(all, string([]byte{byte(c)}))
	}
	return all
}

// everyText: all texts of at most n parts out of an alphabet of parts.
func everyText(n int, alphabet ...string) []string {
	all := []string{""}
	for from := 0; n > 0; n-- {
		to := len(all)
		for _, s := range all[from:to] {
			for _, part := range alphabet {
				all = append(all, s+part)
			}
		}
		from = to
	}
	return all
}

// filled: the text with as many bytes of filling at its mark that it has n bytes.
func filled(s, filling string, n int) string {
	ahead, behind, _ := strings.Cut(s, "<>")
	return ahead + strings.Repeat(filling, n-len(ahead)-len(behind)) + behind
}

// asked: a POST's head with the lines besides Host, as text and as it is read.
func asked(lines ...string) (string, api.Request) {
	text := "POST /p HTTP/1.1\r\nHost: a\r\n"
	list := pairs("Host", "a")
	for i := 0; i < len(lines); i += 2 {
		text += lines[i] + ": " + lines[i+1] + "\r\n"
		list = append(list, api.Field{Name: lines[i], Value: lines[i+1]})
	}
	return text + "\r\n", api.Request{Method: "POST", Target: "/p", Minor: 1, Fields: list}
}

// answered: a response's head, as text and as it is read.
func answered(status int, lines ...string) (string, api.Response) {
	text := "HTTP/1.1 " + strconv.Itoa(status) + " Word\r\n"
	for i := 0; i < len(lines); i += 2 {
		text += lines[i] + ": " + lines[i+1] + "\r\n"
	}
	return text + "\r\n", api.Response{Status: status, Reason: "Word", Minor: 1, Fields: pairs(lines...)}
}

// codedBody is a chunked body as text, and what it is.
type codedBody struct {
	text, data string
	trailers   []api.Field
}

func codedBodies() []codedBody {
	return []codedBody{
		{"0\r\n\r\n", "", nil},
		{"1\r\na\r\n0\r\n\r\n", "a", nil},
		{"3\r\nabc\r\n1\r\nd\r\n0\r\n\r\n", "abcd", nil},
		{"3;x=y\r\nabc\r\n0\r\nA: b\r\n\r\n", "abc", pairs("A", "b")},
		{"4\r\n\r\n\r\n\r\n00;x\r\nA: b\r\na:\r\nC:\td,\te\r\n\r\n", "\r\n\r\n", pairs("A", "b", "a", "", "C", "d,\te")},
		{"0\r\nContent-Length: 5\r\nHost: b\r\n\r\n", "", pairs("Content-Length", "5", "Host", "b")},
		{"10000\r\n" + strings.Repeat("x", bodyCap) + "\r\n0\r\n\r\n", strings.Repeat("x", bodyCap), nil},
	}
}

// wrongCoding is a chunked body that is refused, whatever stands behind it.
type wrongCoding struct {
	errno api.Errno
	text  string
}

func wrongCodings() []wrongCoding {
	return []wrongCoding{
		{api.ErrChunk, "x\r\n"}, {api.ErrChunk, "\r\n"}, {api.ErrChunk, "\n"}, {api.ErrChunk, "3\r\nabcd\r\n"}, {api.ErrChunk, "1\r\na\r\ng\r\n"}, {api.ErrChunk, strings.Repeat("0", 200)},
		{api.ErrBody, "10001\r\n"}, {api.ErrBody, "1\r\na\r\n10000\r\n"}, {api.ErrBody, "ffffffff\r\n"},
		{api.ErrHead, "0\r\n" + strings.Repeat("a", headCap)}, {api.ErrHead, "0\r\na:" + strings.Repeat("b", headCap) + "\r\n\r\n"},
		{api.ErrField, "0\r\na\r\n\r\n"}, {api.ErrField, "1\r\nx\r\n0\r\na b: c\r\n\r\n"}, {api.ErrFold, "0\r\n a: b\r\n\r\n"}, {api.ErrMany, "0\r\n" + strings.Repeat("a: b\r\n", fieldCap+1) + "\r\n"},
	}
}

// wrongFrame is a list of lines, as texts by turns, of which no body is told.
type wrongFrame struct {
	errno api.Errno
	lines []string
}

func wrongFrames() []wrongFrame {
	return []wrongFrame{
		{api.ErrBoth, []string{"Content-Length", "2", "Transfer-Encoding", "chunked"}}, {api.ErrBoth, []string{"Transfer-Encoding", "gzip", "Content-Length", "x"}}, {api.ErrBoth, []string{"Content-Length", "", "transfer-encoding", ""}},
		{api.ErrCoding, []string{"Transfer-Encoding", "gzip, chunked"}}, {api.ErrCoding, []string{"Transfer-Encoding", ""}}, {api.ErrCoding, []string{"Transfer-Encoding", "chunked", "Transfer-Encoding", "chunked"}},
		{api.ErrLength, []string{"Content-Length", "x"}}, {api.ErrLength, []string{"Content-Length", ""}}, {api.ErrLength, []string{"Content-Length", "-1"}}, {api.ErrLength, []string{"Content-Length", "5", "Content-Length", "6"}}, {api.ErrLength, []string{"Content-Length", "99999, 99998"}},
		{api.ErrBody, []string{"Content-Length", "65537"}}, {api.ErrBody, []string{"Content-Length", "999999999999999999"}},
	}
}

// P8.1: Request

func TestRequestExamples(t *testing.T) {
	s := "POST / HTTP/1.1\r\nHost: a\r\nContent-Length: 2\r\n\r\n"
	m := api.Message{Req: api.Request{Method: "POST", Target: "/", Minor: 1, Fields: pairs("Host", "a", "Content-Length", "2")}, Body: []byte("xy")}
	wantRequest(t, s+"xyz", m, len(s)+2, api.OK)
	wantRequest(t, s+"xy", m, len(s)+2, api.OK)
	wantRequest(t, s+"x", api.Message{}, 0, api.OK)
	wholeRequest(t, s+"xy", m)
}

func TestRequestOfNoBytes(t *testing.T) {
	for _, b := range [][]byte{nil, {}, []byte("GET / HTTP/1.0\r\n\r\n")[:0]} {
		if m, n, e := inbox.Request(b); !same(m, api.Message{}) || n != 0 || e != api.OK {
			t.Errorf("Request of no bytes = %s, %d, %d", told(m), n, e)
		}
	}
}

func TestRequestsWithoutABody(t *testing.T) {
	wholeRequest(t, "GET / HTTP/1.0\r\n\r\n", api.Message{Req: api.Request{Method: "GET", Target: "/"}})
	wholeRequest(t, "GET http://a/ HTTP/1.1\r\nHost: a\r\n\r\n", api.Message{Req: api.Request{Method: "GET", Target: "http://a/", Minor: 1, Fields: pairs("Host", "a")}})
	wholeRequest(t, "CONNECT a:443 HTTP/1.1\r\nhost:a\r\nA: b\r\na: \r\n\r\n", api.Message{Req: api.Request{Method: "CONNECT", Target: "a:443", Minor: 1, Fields: pairs("host", "a", "A", "b", "a", "")}})
	// A method's body, or its connection's end, is nothing that is told by the method.
	for _, method := range []string{"GET", "HEAD", "POST", "PUT", "CONNECT", "x"} {
		wholeRequest(t, method+" * HTTP/1.0\r\nConnection: close\r\n\r\n", api.Message{Req: api.Request{Method: method, Target: "*", Fields: pairs("Connection", "close")}})
	}
}

// The pairs of 13, 10 ahead of a request are some of its bytes.
func TestEmptyLinesAheadOfARequest(t *testing.T) {
	text, r := asked("Content-Length", "3")
	for _, n := range []int{1, 2, 3, 100} {
		wholeRequest(t, strings.Repeat("\r\n", n)+text+"\r\nx", api.Message{Req: r, Body: []byte("\r\nx")})
	}
}

func TestRequestsWithALength(t *testing.T) {
	all := strings.Repeat("0123456789\r\n\x00\xff", bodyCap/10)
	for _, n := range []int{0, 1, 2, 3, 100, 8191, 8192, 8193, bodyCap - 1, bodyCap} {
		for _, value := range []string{strconv.Itoa(n), "0" + strconv.Itoa(n), strconv.Itoa(n) + ", " + strconv.Itoa(n)} {
			text, r := asked("Content-Length", value, "A", "b")
			m := api.Message{Req: r, Body: []byte(all[:n])}
			wholeRequest(t, text+all[:n], m)
			// Of more that has come the rest is left.
			wantRequest(t, text+all[:n+1], m, len(text)+n, api.OK)
			wantRequest(t, text+all, m, len(text)+n, api.OK)
		}
	}
	text, r := asked("content-length", "2", "Content-Length", "02, 2")
	wholeRequest(t, text+"ab", api.Message{Req: r, Body: []byte("ab")})
	wholeRequest(t, "GET / HTTP/1.0\r\nContent-Length: 2\r\n\r\nab", api.Message{Req: api.Request{Method: "GET", Target: "/", Fields: pairs("Content-Length", "2")}, Body: []byte("ab")})
	for _, c := range everyByte() {
		wholeRequest(t, text+c+c, api.Message{Req: r, Body: []byte(c + c)})
	}
}

func TestRequestsInChunks(t *testing.T) {
	for _, coding := range []string{"chunked", "Chunked", "CHUNKED"} {
		text, r := asked("Transfer-Encoding", coding)
		for _, body := range codedBodies() {
			wholeRequest(t, text+body.text, api.Message{Req: r, Body: []byte(body.data), Trailers: body.trailers})
			wholeRequest(t, "\r\n"+text+body.text, api.Message{Req: r, Body: []byte(body.data), Trailers: body.trailers})
		}
	}
}

func TestRequestsWithAWrongHead(t *testing.T) {
	for _, text := range []string{"x\r\n\r\n", "GET  / HTTP/1.1\r\n\r\n", "GET / HTTP/1.1 \r\nHost: a\r\n\r\n", "HTTP/1.1 200 OK\r\n\r\n", " \r\n\r\n", "\r\nGET /\r\n\r\n"} {
		wrongRequest(t, api.ErrLine, text)
	}
	wrongRequest(t, api.ErrVersion, "GET / HTTP/2.0\r\n\r\n", "GET / HTTP/1.2\r\nHost: a\r\n\r\n")
	wrongRequest(t, api.ErrField, "GET / HTTP/1.1\r\n\r\n", "GET / HTTP/1.0\r\nHost: a\r\nHost: a\r\n\r\n", "GET / HTTP/1.0\r\na\r\n\r\n", "GET / HTTP/1.0\r\na: b\nc: d\r\n\r\n")
	wrongRequest(t, api.ErrFold, "GET / HTTP/1.0\r\n a: b\r\n\r\n")
	wrongRequest(t, api.ErrMany, "GET / HTTP/1.0\r\n"+strings.Repeat("a: b\r\n", fieldCap+1)+"\r\n")
	wrongRequest(t, api.ErrHead, strings.Repeat("a", headCap), strings.Repeat("\r\n", headCap/2), filled("GET / HTTP/1.0\r\na:<>\r\n\r\n", "b", headCap+1))
	// Nothing of it is told before the head's end has come.
	moreRequest(t, "x\r\n", "x\r\n\r", "GET / HTTP/2.0\r\n", "GET / HTTP/1.1\r\n a: b\r\n", strings.Repeat("a", headCap-1), "\n\n", "\r\n\r\n", "\r\n\r\n\r\n\r\n", "\x00")
	wholeRequest(t, filled("GET / HTTP/1.0\r\na:<>\r\n\r\n", "b", headCap), api.Message{Req: api.Request{Method: "GET", Target: "/", Fields: pairs("a", strings.Repeat("b", headCap-22))}})
	wantRequest(t, "GET / HTTP/1.0\r\n"+strings.Repeat("a: b\r\n", fieldCap)+"\r\n", api.Message{Req: api.Request{Method: "GET", Target: "/", Fields: slices.Repeat(pairs("a", "b"), fieldCap)}}, 618, api.OK)
}

func TestRequestsWhoseBodyHasNoEnd(t *testing.T) {
	for _, wrong := range wrongFrames() {
		text, _ := asked(wrong.lines...)
		// The head says it: no byte of a body need have come.
		wrongRequest(t, wrong.errno, text, "\r\n"+text, text+"0\r\n\r\n", text+"xy")
		moreRequest(t, beginnings(text)...)
	}
	wrongRequest(t, api.ErrCoding, "P / HTTP/1.0\r\nTransfer-Encoding: chunked\r\n\r\n")
}

func TestRequestsInWrongChunks(t *testing.T) {
	text, _ := asked("Transfer-Encoding", "chunked")
	for _, wrong := range wrongCodings() {
		wrongRequest(t, wrong.errno, text+wrong.text)
	}
	moreRequest(t, text, text+"x", text+"x\r", text+"3\r\nabcd", text+"0\r\na\r\n", text+"10001", text+"0\r\n"+strings.Repeat("a", headCap-1), text+strings.Repeat("0", 199))
}

// The order of the errors is that of the sentences.
func TestOrderOfARequestsErrors(t *testing.T) {
	for _, wrong := range wrongFrames() {
		text, _ := asked(wrong.lines...)
		_, lines, _ := strings.Cut(text, "\r\nHost: a\r\n")
		wrongRequest(t, api.ErrLine, "x\r\n"+lines, "POST HTTP/1.1\r\nHost: a\r\n"+lines)
		wrongRequest(t, api.ErrVersion, "POST / HTTP/3.0\r\nHost: a\r\n"+lines)
		wrongRequest(t, api.ErrField, "POST / HTTP/1.1\r\n"+lines, "POST / HTTP/1.1\r\nHost: a\r\nHost: b\r\n"+lines, "POST / HTTP/1.1\r\nHost: a\r\na\r\n"+lines)
		wrongRequest(t, api.ErrFold, "POST / HTTP/1.1\r\nHost: a\r\n b\r\n"+lines)
		wrongRequest(t, api.ErrMany, "POST / HTTP/1.1\r\nHost: a\r\n"+strings.Repeat("a: b\r\n", fieldCap)+lines)
		wrongRequest(t, api.ErrHead, "POST / HTTP/1.1\r\nHost: a\r\na: "+strings.Repeat("b", headCap)+"\r\n"+lines)
		for _, coding := range wrongCodings() {
			wrongRequest(t, wrong.errno, text+coding.text)
			wrongRequest(t, api.ErrField, "POST / HTTP/1.1\r\n"+lines+coding.text)
		}
	}
	for _, coding := range wrongCodings() {
		wrongRequest(t, api.ErrVersion, "POST / HTTP/3.0\r\nHost: a\r\nTransfer-Encoding: chunked\r\n\r\n"+coding.text)
	}
}

// P8.2: Response

func TestResponseExamples(t *testing.T) {
	s := "HTTP/1.1 200 OK\r\n\r\n"
	m := api.Message{Resp: api.Response{Status: 200, Reason: "OK", Minor: 1}, Body: []byte("ab")}
	wantResponse(t, s+"ab", "GET", true, m, len(s)+2, api.OK)
	wantResponse(t, s+"ab", "GET", false, api.Message{}, 0, api.OK)
	wantResponse(t, "HTTP/1.1 200", "GET", true, api.Message{}, 0, api.ErrCut)
	wantResponse(t, "HTTP/1.1 200", "GET", false, api.Message{}, 0, api.OK)
}

func TestResponseOfNoBytes(t *testing.T) {
	for _, method := range []string{"", "GET", "HEAD", "CONNECT"} {
		moreResponse(t, method, "")
		for ended, errno := range map[bool]api.Errno{false: api.OK, true: api.ErrCut} {
			if m, n, e := inbox.Response(nil, method, ended); !same(m, api.Message{}) || n != 0 || e != errno {
				t.Errorf("Response of no bytes, %v = %s, %d, %d", ended, told(m), n, e)
			}
		}
	}
}

func TestResponsesToHead(t *testing.T) {
	for _, status := range []int{100, 101, 199, 200, 204, 206, 304, 404, 500, 599} {
		text, r := answered(status)
		wholeResponse(t, text, "HEAD", api.Message{Resp: r})
		text, r = answered(status, "Content-Length", "5")
		wholeResponse(t, text, "HEAD", api.Message{Resp: r})
		text, r = answered(status, "Transfer-Encoding", "chunked")
		wholeResponse(t, text, "HEAD", api.Message{Resp: r})
		for _, wrong := range wrongFrames() {
			text, r = answered(status, wrong.lines...)
			wholeResponse(t, text, "HEAD", api.Message{Resp: r})
		}
	}
}

func TestResponsesWithoutABody(t *testing.T) {
	for _, status := range []int{100, 101, 102, 150, 199, 204, 304} {
		for _, method := range []string{"GET", "POST", "CONNECT", ""} {
			text, r := answered(status)
			wholeResponse(t, text, method, api.Message{Resp: r})
			text, r = answered(status, "Content-Length", "5", "Transfer-Encoding", "x")
			wholeResponse(t, text, method, api.Message{Resp: r})
		}
	}
}

func TestResponsesToConnect(t *testing.T) {
	for _, status := range []int{200, 201, 250, 299} {
		text, r := answered(status)
		wholeResponse(t, text, "CONNECT", api.Message{Resp: r})
		text, r = answered(status, "Content-Length", "65537")
		wholeResponse(t, text, "CONNECT", api.Message{Resp: r})
		wrongResponse(t, api.ErrBody, "GET", text)
	}
	for _, status := range []int{300, 403, 407, 502} {
		text, r := answered(status, "Content-Length", "2")
		wholeResponse(t, text+"ab", "CONNECT", api.Message{Resp: r, Body: []byte("ab")})
	}
	text, r := answered(400)
	wantResponse(t, text+"ab", "CONNECT", true, api.Message{Resp: r, Body: []byte("ab")}, len(text)+2, api.OK)
	wantResponse(t, text+"ab", "CONNECT", false, api.Message{}, 0, api.OK)
}

// methods: those whose responses have bodies, some of which are nearly HEAD or CONNECT.
func methods() []string {
	return []string{"GET", "POST", "", "head", "Head", "HEAD ", "HEADS", "connect", "CONNECT ", "\x00\xff"}
}

func TestResponsesWithALength(t *testing.T) {
	all := strings.Repeat("0123456789\r\n\x00\xff", bodyCap/10)
	for _, n := range []int{0, 1, 2, 3, 100, 8193, bodyCap - 1, bodyCap} {
		text, r := answered(200, "Content-Length", strconv.Itoa(n), "A", "b")
		wholeResponse(t, text+all[:n], "GET", api.Message{Resp: r, Body: []byte(all[:n])})
	}
	for _, method := range methods() {
		for _, status := range []int{200, 203, 205, 206, 300, 303, 305, 400, 599} {
			text, r := answered(status, "Content-Length", "4, 04")
			wholeResponse(t, text+"abcd", method, api.Message{Resp: r, Body: []byte("abcd")})
		}
	}
	wholeResponse(t, "HTTP/1.0 200\r\nContent-Length: 2\r\nConnection: close\r\n\r\nab", "GET", api.Message{Resp: api.Response{Status: 200, Fields: pairs("Content-Length", "2", "Connection", "close")}, Body: []byte("ab")})
}

func TestResponsesInChunks(t *testing.T) {
	for _, method := range []string{"GET", "PUT", "", "head"} {
		for _, status := range []int{200, 404} {
			text, r := answered(status, "Transfer-Encoding", "Chunked")
			for _, body := range codedBodies() {
				wholeResponse(t, text+body.text, method, api.Message{Resp: r, Body: []byte(body.data), Trailers: body.trailers})
			}
		}
	}
}

func TestResponsesThatEndWithTheConnection(t *testing.T) {
	all := strings.Repeat("0\r\n\r\nHTTP/1.1 200 OK\r\n\r\n\x00\xff", bodyCap)
	for _, method := range methods() {
		text, r := answered(200, "Connection", "close")
		for _, n := range []int{0, 1, 2, 5, 100, headCap, bodyCap - 1, bodyCap} {
			wantResponse(t, text+all[:n], method, true, api.Message{Resp: r, Body: []byte(all[:n])}, len(text)+n, api.OK)
			wantResponse(t, text+all[:n], method, false, api.Message{}, 0, api.OK)
		}
		for _, n := range []int{bodyCap + 1, bodyCap + 2, bodyCap + len(text), 2 * bodyCap, len(all)} {
			wantResponse(t, text+all[:n], method, true, api.Message{}, 0, api.ErrBody)
			wantResponse(t, text+all[:n], method, false, api.Message{}, 0, api.ErrBody)
		}
		moreResponse(t, method, beginnings(text)...)
	}
	wantResponse(t, "HTTP/1.0 200\r\n\r\nab", "GET", true, api.Message{Resp: api.Response{Status: 200}, Body: []byte("ab")}, 18, api.OK)
	// The longest head takes nothing off the body's limit.
	text := filled("HTTP/1.0 200\r\na:<>\r\n\r\n", "b", headCap)
	m := api.Message{Resp: api.Response{Status: 200, Fields: pairs("a", strings.Repeat("b", headCap-20))}, Body: []byte(all[:bodyCap])}
	wantResponse(t, text+all[:bodyCap], "GET", true, m, headCap+bodyCap, api.OK)
	wantResponse(t, text+all[:bodyCap+1], "GET", true, api.Message{}, 0, api.ErrBody)
	wantResponse(t, text+all[:bodyCap], "GET", false, api.Message{}, 0, api.OK)
}

func TestResponsesWithAWrongHead(t *testing.T) {
	for _, method := range []string{"GET", "HEAD", "CONNECT", ""} {
		wrongResponse(t, api.ErrLine, method, "x\r\n\r\n", "\r\n\r\n", "\r\nHTTP/1.1 200 OK\r\n\r\n", "HTTP/1.1  200 OK\r\n\r\n", "HTTP/1.1 20\r\n\r\n", "GET / HTTP/1.1\r\nHost: a\r\n\r\n")
		wrongResponse(t, api.ErrVersion, method, "HTTP/2.0 200 OK\r\n\r\n", "HTTP/1.2 999\r\n\r\n")
		wrongResponse(t, api.ErrStatus, method, "HTTP/1.1 099 OK\r\n\r\n", "HTTP/1.1 600 OK\r\n\r\n")
		wrongResponse(t, api.ErrField, method, "HTTP/1.1 200 OK\r\na\r\n\r\n", "HTTP/1.1 204 OK\r\na b: c\r\n\r\n")
		wrongResponse(t, api.ErrFold, method, "HTTP/1.1 200 OK\r\n a: b\r\n\r\n")
		wrongResponse(t, api.ErrMany, method, "HTTP/1.1 200 OK\r\n"+strings.Repeat("a: b\r\n", fieldCap+1)+"\r\n")
		wrongResponse(t, api.ErrHead, method, strings.Repeat("a", headCap), filled("HTTP/1.1 200 OK\r\na:<>\r\n\r\n", "b", headCap+1))
		moreResponse(t, method, "x\r\n", "\r\n", "\r\n\r", "HTTP/2.0 200 OK\r\n", "HTTP/1.1 999\r\n", "HTTP/1.1 200 OK\r\n a: b\r\n", strings.Repeat("a", headCap-1), "\n\n", "\x00")
	}
}

func TestResponsesWhoseBodyHasNoEnd(t *testing.T) {
	for _, method := range methods() {
		for _, wrong := range wrongFrames() {
			text, _ := answered(200, wrong.lines...)
			wrongResponse(t, wrong.errno, method, text, text+"0\r\n\r\n", text+"xy")
			moreResponse(t, method, beginnings(text)...)
		}
	}
	wrongResponse(t, api.ErrCoding, "GET", "HTTP/1.0 200 OK\r\nTransfer-Encoding: chunked\r\n\r\n")
}

func TestResponsesInWrongChunks(t *testing.T) {
	text, _ := answered(200, "Transfer-Encoding", "chunked")
	for _, wrong := range wrongCodings() {
		wrongResponse(t, wrong.errno, "GET", text+wrong.text)
	}
	moreResponse(t, "GET", text, text+"x", text+"x\r", text+"3\r\nabcd", text+"0\r\na\r\n", text+"10001", text+"0\r\n"+strings.Repeat("a", headCap-1), text+strings.Repeat("0", 199))
}

// The order of the errors is that of the sentences.
func TestOrderOfAResponsesErrors(t *testing.T) {
	for _, wrong := range wrongFrames() {
		text, _ := answered(200, wrong.lines...)
		_, lines, _ := strings.Cut(text, "\r\n")
		wrongResponse(t, api.ErrLine, "GET", "x\r\n"+lines)
		wrongResponse(t, api.ErrVersion, "GET", "HTTP/3.0 200\r\n"+lines)
		wrongResponse(t, api.ErrStatus, "GET", "HTTP/1.1 600\r\n"+lines)
		wrongResponse(t, api.ErrField, "GET", "HTTP/1.1 200\r\na\r\n"+lines)
		wrongResponse(t, api.ErrFold, "GET", "HTTP/1.1 200\r\n a\r\n"+lines)
		wrongResponse(t, api.ErrMany, "GET", "HTTP/1.1 200\r\n"+strings.Repeat("a: b\r\n", fieldCap)+lines)
		wrongResponse(t, api.ErrHead, "GET", "HTTP/1.1 200\r\na: "+strings.Repeat("b", headCap)+"\r\n"+lines)
		for _, coding := range wrongCodings() {
			wrongResponse(t, wrong.errno, "GET", text+coding.text)
			wrongResponse(t, api.ErrStatus, "GET", "HTTP/1.1 600\r\n"+lines+coding.text)
		}
	}
}

// P8.1, P8.2: what the layers beneath answer

// bodyByLayers: a message's body, its trailers and its bytes behind a head, as the chapter says it in the words of the layers beneath.
func bodyByLayers(behind string, end api.Body, ended bool) ([]byte, []api.Field, int, bool, api.Errno) {
	switch {
	case end.Kind == api.BodyNone:
		return nil, nil, 0, true, api.OK
	case end.Kind == api.BodyLength && len(behind) >= end.Length:
		return []byte(behind[:end.Length]), nil, end.Length, true, api.OK
	case end.Kind == api.BodyChunked:
		data, list, n, e := chunk.Decode([]byte(behind))
		return data, list, n, n > 0, e
	case end.Kind == api.BodyClose && len(behind) > bodyCap:
		return nil, nil, 0, false, api.ErrBody
	case end.Kind == api.BodyClose && ended:
		return []byte(behind), nil, len(behind), true, api.OK
	}
	return nil, nil, 0, false, api.OK
}

func wantRequestAsByLayers(t *testing.T, s string) {
	t.Helper()
	r, at, e := head.Request([]byte(s))
	if e != api.OK || at == 0 {
		wantRequest(t, s, api.Message{}, 0, e)
		wantExpects(t, false, s)
		return
	}
	end, e := frame.OfRequest(r)
	waits := r.Minor == 1 && slices.Contains(fields.Tokens(r.Fields, "Expect"), "100-continue")
	wantExpects(t, waits && e == api.OK && end.Kind != api.BodyNone, s)
	if e != api.OK {
		wantRequest(t, s, api.Message{}, 0, e)
		return
	}
	body, trailers, n, whole, e := bodyByLayers(s[at:], end, false)
	if !whole {
		wantRequest(t, s, api.Message{}, 0, e)
		return
	}
	wantRequest(t, s, api.Message{Req: r, Body: body, Trailers: trailers}, at+n, api.OK)
}

func wantResponseAsByLayers(t *testing.T, s, method string, ended bool) {
	t.Helper()
	nothing := func(e api.Errno) {
		t.Helper()
		if e == api.OK && ended {
			e = api.ErrCut
		}
		wantResponse(t, s, method, ended, api.Message{}, 0, e)
	}
	r, at, e := head.Response([]byte(s))
	if e != api.OK || at == 0 {
		nothing(e)
		return
	}
	end, e := frame.OfResponse(r, method)
	if e != api.OK {
		nothing(e)
		return
	}
	body, trailers, n, whole, e := bodyByLayers(s[at:], end, ended)
	if !whole {
		nothing(e)
		return
	}
	wantResponse(t, s, method, ended, api.Message{Resp: r, Body: body, Trailers: trailers}, at+n, api.OK)
}

func wantAllAsByLayers(t *testing.T, s string) {
	t.Helper()
	wantRequestAsByLayers(t, s)
	for _, method := range []string{"GET", "HEAD", "CONNECT"} {
		wantResponseAsByLayers(t, s, method, false)
		wantResponseAsByLayers(t, s, method, true)
	}
}

func TestAllShortMessages(t *testing.T) {
	lines := []string{"Host: a\r\n", "Content-Length: 2\r\n", "Content-Length: 0\r\n", "Transfer-Encoding: chunked\r\n", "Expect: 100-continue\r\n", "\r\n", "ab"}
	bodies := []string{"", "a", "ab", "abc", "0\r\n\r\n", "2\r\nab\r\n0\r\nA: b\r\n\r\nx", "x\r\n", "2\r\nab\r\n0\r\nA\r\n\r\n"}
	for _, first := range []string{"P / HTTP/1.1\r\n", "P / HTTP/1.0\r\n", "HTTP/1.1 200 OK\r\n", "HTTP/1.0 404\r\n", "HTTP/1.1 204\r\n", "x\r\n"} {
		for _, rest := range everyText(3, lines...) {
			wantAllAsByLayers(t, first+rest)
			for _, body := range bodies {
				wantAllAsByLayers(t, first+rest+"\r\n"+body)
				wantAllAsByLayers(t, "\r\n"+first+"Host: b\r\n"+rest+"\r\n"+body)
			}
		}
	}
	for _, s := range everyText(5, "P / HTTP/1.0", "HTTP/1.1 200", "\r\n", "\r", "\n", "a: b", "x") {
		wantAllAsByLayers(t, s)
	}
}

func FuzzMessages(f *testing.F) {
	for _, s := range []string{
		"", "POST / HTTP/1.1\r\nHost: a\r\nContent-Length: 2\r\n\r\nxyz", "HTTP/1.1 200 OK\r\n\r\nab", "HTTP/1.1 200", "P / HTTP/1.1\r\nHost: a\r\nTransfer-Encoding: chunked\r\nExpect: 100-Continue\r\n\r\n1\r\nx\r\n0\r\nA: b\r\n\r\n",
		"HTTP/1.1 200 OK\r\nTransfer-Encoding: chunked\r\n\r\n1\r\nx\r\n0\r\n\r\nHTTP/1.1 204\r\n\r\n",
	} {
		f.Add([]byte(s), "GET", 3)
	}
	f.Fuzz(func(t *testing.T, b []byte, method string, size int) {
		wantAllAsByLayers(t, string(b))
		wantResponseAsByLayers(t, string(b), method, true)
		size = 1 + max(0, size%100)
		wantInPieces(t, inbox.Request, string(b), inPieces(string(b), size))
		wantInPieces(t, responsesTo(method), string(b), inPieces(string(b), size))
	})
}

// P8.3: Expects

func TestExpects(t *testing.T) {
	ahead := "P / HTTP/1.1\r\nHost: a\r\n"
	for _, end := range []string{"Content-Length: 1\r\n", "Content-Length: 0\r\n", "Content-Length: 65536\r\n", "Content-Length: 2, 02\r\n", "Transfer-Encoding: chunked\r\n", "transfer-encoding: Chunked\r\n"} {
		for _, word := range []string{
			"Expect: 100-continue\r\n", "Expect: 100-Continue\r\n", "EXPECT: 100-CONTINUE\r\n", "expect:100-continue\r\n", "Expect: a, 100-continue\r\n", "Expect: 100-continue, a\r\n", "Expect: , ,100-cONTINUE\t,\r\n",
			"Expect: a\r\nExpect: 100-continue\r\n", "Expect: 100-continue\r\nexpect: b\r\n", "Expect:\r\nExpect: c,100-continue\r\n", "Expect: 100-continue\r\nExpect: 100-continue\r\n",
		} {
			for _, behind := range behinds() {
				wantExpects(t, true, ahead+word+end+"\r\n"+behind, ahead+end+word+"\r\n"+behind, "\r\n\r\n"+ahead+word+end+"\r\n"+behind)
			}
			wantExpects(t, false, beginnings(ahead+word+end+"\r\n")...)
			// It is version 1.1's alone.
			wantExpects(t, false, "P / HTTP/1.0\r\nHost: a\r\n"+word+"Content-Length: 1\r\n\r\n", "P / HTTP/1.0\r\n"+word+"Content-Length: 1\r\n\r\n")
			// Without a body there is nothing to wait for.
			wantExpects(t, false, ahead+word+"\r\n", ahead+word+"\r\nab")
			// A head that is refused waits for nothing.
			wantExpects(t, false, "P / HTTP/1.1\r\n"+word+end+"\r\n", "P HTTP/1.1\r\nHost: a\r\n"+word+end+"\r\n", "P / HTTP/2.0\r\nHost: a\r\n"+word+end+"\r\n", ahead+word+end+"a\r\n\r\n", ahead+" \r\n"+word+end+"\r\n", ahead+"Host: b\r\n"+word+end+"\r\n")
			wantExpects(t, false, ahead+word+end+"a: "+strings.Repeat("b", headCap)+"\r\n\r\n", ahead+strings.Repeat("a: b\r\n", fieldCap)+word+end+"\r\n", "HTTP/1.1 200 OK\r\n"+word+end+"\r\n")
		}
		for _, word := range []string{"", "Expect:\r\n", "Expect: 100\r\n", "Expect: continue\r\n", "Expect: 100 continue\r\n", "Expect: 100-continue;a\r\n", "Expect: \"100-continue\"\r\n", "Expect: 100-continue-\r\n", "Expect: 100-\r\nExpect: continue\r\n", "Expects: 100-continue\r\n", "A: 100-continue\r\n", "Expect: a=100-continue\r\n"} {
			wantExpects(t, false, ahead+word+end+"\r\n", ahead+end+word+"\r\nab")
		}
	}
	wantExpects(t, false, "", "\r\n", "x", "x\r\n\r\n", "\r\n\r\n", strings.Repeat("a", headCap))
}

func TestExpectsOfWrongBodies(t *testing.T) {
	for _, wrong := range wrongFrames() {
		text, _ := asked(append([]string{"Expect", "100-continue"}, wrong.lines...)...)
		wantExpects(t, false, text, text+"0\r\n\r\n")
	}
	// What stands behind the head is nobody's business here.
	text, _ := asked("Expect", "100-continue", "Transfer-Encoding", "chunked")
	for _, wrong := range wrongCodings() {
		wantExpects(t, true, text+wrong.text)
	}
}

// P8.5, rule 5

// withRoom: a copy of list in memory that goes on behind its length, and the whole memory.
func withRoom[T any](list []T, filling T) ([]T, []T) {
	all := slices.Concat(list, slices.Repeat([]T{filling}, 8))
	return all[:len(list)], all
}

// overwrite: fills the list and its spare room.
func overwrite[T any](list []T, with T) {
	list = list[:cap(list)]
	for i := range list {
		list[i] = with
	}
}

func someMessages() []string {
	sized, _ := asked("Content-Length", "4", "Expect", "100-continue")
	coded, _ := asked("Transfer-Encoding", "chunked", "Expect", "100-continue")
	sizedAnswer, _ := answered(200, "Content-Length", "4")
	codedAnswer, _ := answered(200, "Transfer-Encoding", "chunked")
	both, _ := asked("Transfer-Encoding", "chunked", "Content-Length", "4")
	all := []string{"", "\r\n", "x\r\n\r\n", "GET / HTTP/1.0\r\n\r\n", "GET / HTTP/1.0\r\n\r", "GET / HTTP/1.0\r\n\r\nmore", "HTTP/1.1 200 OK\r\n\r\n", "HTTP/1.1 200 OK\r\n\r\nabcd", "HTTP/1.1 204\r\nA: b\r\n\r\nabcd", both, strings.Repeat("a", headCap-1), strings.Repeat("a", headCap)}
	for _, text := range []string{sized, sizedAnswer} {
		all = append(all, text, text+"abc", text+"abcd", text+"abcde")
	}
	for _, text := range []string{coded, codedAnswer} {
		all = append(all, text, text+"4\r\nabcd\r\n", text+"4\r\nabcd\r\n0\r\n\r\n", text+"4\r\nabcd\r\n0\r\nName: value\r\n\r\n", text+"4\r\nabcd\r\n0\r\nName: value\r\n\r\nmore", text+"x\r\n")
	}
	return all
}

// The bytes behind the length are no part of the message, and none of the memory changes.
func TestTheBytesStayAsTheyWere(t *testing.T) {
	for _, s := range someMessages() {
		for _, filling := range []byte("\n\ra0\x00") {
			b, memory := withRoom([]byte(s), filling)
			before := slices.Clone(memory)
			m, n, e := inbox.Request(b)
			if want, length, errno := inbox.Request([]byte(s)); !same(m, want) || n != length || e != errno {
				t.Errorf("Request(%s) = %s, %d, %d with %q behind it", short(s), told(m), n, e, filling)
			}
			for _, ended := range []bool{false, true} {
				m, n, e = inbox.Response(b, "GET", ended)
				if want, length, errno := inbox.Response([]byte(s), "GET", ended); !same(m, want) || n != length || e != errno {
					t.Errorf("Response(%s, GET, %v) = %s, %d, %d with %q behind it", short(s), ended, told(m), n, e, filling)
				}
			}
			if inbox.Expects(b) != inbox.Expects([]byte(s)) {
				t.Errorf("Expects(%s) with %q behind it", short(s), filling)
			}
			if !bytes.Equal(memory, before) {
				t.Errorf("%s changed", short(s))
			}
		}
	}
}

func within(part, all string) bool {
	if part == "" || all == "" {
		return false
	}
	p, w := uintptr(unsafe.Pointer(unsafe.StringData(part))), uintptr(unsafe.Pointer(unsafe.StringData(all)))
	return p < w+uintptr(len(all)) && w < p+uintptr(len(part))
}

// memoryOf: the bytes of the list and its spare room as a text that lies where they lie.
func memoryOf(b []byte) string {
	return unsafe.String(unsafe.SliceData(b), cap(b))
}

// apart: no two of the texts lie in the same memory.
func apart(t *testing.T, texts ...string) {
	t.Helper()
	for i, one := range texts {
		for _, other := range texts[:i] {
			if within(one, other) {
				t.Errorf("%s and %s lie in the same memory", short(one), short(other))
			}
		}
	}
}

// textsOf: all texts of a message.
func textsOf(m api.Message) []string {
	texts := []string{m.Req.Method, m.Req.Target, m.Resp.Reason}
	for _, list := range [][]api.Field{m.Req.Fields, m.Resp.Fields, m.Trailers} {
		for _, field := range list {
			texts = append(texts, field.Name, field.Value)
		}
	}
	return texts
}

// answers: the messages that b may be read as.
func answers(b []byte) []api.Message {
	asked, _, _ := inbox.Request(b)
	ended, _, _ := inbox.Response(b, "GET", true)
	short, _, _ := inbox.Response(b, "HEAD", false)
	return []api.Message{asked, ended, short}
}

// fillLists: fills all lists of a message, and their spare room.
func fillLists(m api.Message) {
	overwrite(m.Body, 'x')
	for _, list := range [][]api.Field{m.Req.Fields, m.Resp.Fields, m.Trailers} {
		overwrite(list, api.Field{Name: "x", Value: "x"})
	}
}

func TestMessagesShareNothingWithTheBytes(t *testing.T) {
	for _, s := range someMessages() {
		b, memory := withRoom([]byte(s), 'y')
		before, all := slices.Clone(memory), answers(b)
		for _, m := range all {
			apart(t, memoryOf(memory), memoryOf(m.Body))
			for _, text := range textsOf(m) {
				apart(t, memoryOf(memory), memoryOf(m.Body), text)
			}
		}
		overwrite(memory, 'z')
		for i, want := range answers([]byte(s)) {
			if !same(all[i], want) {
				t.Errorf("%s: %s changed with the bytes", short(s), told(all[i]))
			}
		}
		copy(memory, before)
		for _, m := range answers(b) {
			fillLists(m)
		}
		if !bytes.Equal(memory, before) {
			t.Errorf("%s changed with an answer", short(s))
		}
	}
}

func TestPartsOfAMessageShareNothing(t *testing.T) {
	for _, s := range someMessages() {
		for i, want := range answers([]byte(s)) {
			m := answers([]byte(s))[i]
			overwrite(m.Body, 'x')
			m.Body = want.Body
			if !same(m, want) {
				t.Errorf("%s changed with the body", told(m))
			}
			overwrite(m.Trailers, api.Field{Name: "x", Value: "x"})
			m.Trailers = want.Trailers
			if !same(m, want) {
				t.Errorf("%s changed with the trailers", told(m))
			}
			overwrite(m.Req.Fields, api.Field{Name: "x", Value: "x"})
			overwrite(m.Resp.Fields, api.Field{Name: "x", Value: "x"})
			m.Req.Fields, m.Resp.Fields = want.Req.Fields, want.Resp.Fields
			if !same(m, want) {
				t.Errorf("%s changed with the fields", told(m))
			}
		}
	}
}

func TestTwoAnswersShareNothing(t *testing.T) {
	for _, s := range someMessages() {
		b := []byte(s)
		one, two := answers(b), answers(b)
		for _, m := range one {
			fillLists(m)
		}
		for i, want := range answers([]byte(s)) {
			if !same(two[i], want) {
				t.Errorf("%s: %s changed with another answer", short(s), told(two[i]))
			}
		}
	}
}

// P1 and P2: no call panics, and each answers the same twice.
func TestCallsEndAndAnswerTheSameTwice(t *testing.T) {
	type answer struct {
		asked, open, ended          api.Message
		n, openN, endedN            int
		errno, openErrno, endsErrno api.Errno
		expects                     bool
	}
	ask := func(s, method string) answer {
		var a answer
		a.asked, a.n, a.errno = inbox.Request([]byte(s))
		a.open, a.openN, a.openErrno = inbox.Response([]byte(s), method, false)
		a.ended, a.endedN, a.endsErrno = inbox.Response([]byte(s), method, true)
		a.expects = inbox.Expects([]byte(s))
		return a
	}
	for _, s := range slices.Concat(everyText(4, "P / HTTP/1.0", "HTTP/1.1 200", "\r\n", "\r", "a: b", "\xff", "\x00"), everyByte(), someMessages()) {
		for _, method := range []string{"", "GET", "HEAD", "\x00"} {
			if one, two := ask(s, method), ask(s, method); !reflect.DeepEqual(one, two) {
				t.Fatalf("%s: %+v, then %+v", short(s), one, two)
			}
		}
	}
}
