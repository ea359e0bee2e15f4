package frame_test

import (
	"math"
	"math/big"
	"regexp"
	"slices"
	"strconv"
	"strings"
	"testing"

	"conduit/api"
	"conduit/frame"
	"conduit/tok"
)

const (
	coding     = "Transfer-Encoding"
	size       = "Content-Length"
	connection = "Connection"
)

// pairs: fields of names and values by turns.
func pairs(texts ...string) []api.Field {
	var list []api.Field
	for i := 0; i+1 < len(texts); i += 2 {
		list = append(list, api.Field{Name: texts[i], Value: texts[i+1]})
	}
	return list
}

// named: a field of the name for each value.
func named(name string, values ...string) []api.Field {
	var list []api.Field
	for _, value := range values {
		list = append(list, api.Field{Name: name, Value: value})
	}
	return list
}

func length(n int) api.Body {
	return api.Body{Kind: api.BodyLength, Length: n}
}

func chunked() api.Body {
	return api.Body{Kind: api.BodyChunked}
}

func wantRequest(t *testing.T, r api.Request, want api.Body, errno api.Errno) {
	t.Helper()
	if got, e := frame.OfRequest(r); got != want || e != errno {
		t.Errorf("OfRequest(%+v) = %+v, %d, not %+v, %d", r, got, e, want, errno)
	}
}

func wantResponse(t *testing.T, r api.Response, method string, want api.Body, errno api.Errno) {
	t.Helper()
	if got, e := frame.OfResponse(r, method); got != want || e != errno {
		t.Errorf("OfResponse(%+v, %q) = %+v, %d, not %+v, %d", r, method, got, e, want, errno)
	}
}

// wantRule: both a request and a response to a GET with the fields have the body that the fields tell.
func wantRule(t *testing.T, minor int, list []api.Field, want api.Body, errno api.Errno) {
	t.Helper()
	wantRequest(t, api.Request{Method: "POST", Target: "/", Minor: minor, Fields: list}, want, errno)
	wantResponse(t, api.Response{Status: 200, Reason: "OK", Minor: minor, Fields: list}, "GET", want, errno)
}

// wantWrong: each value, in a field of the name by itself, is the error.
func wantWrong(t *testing.T, errno api.Errno, name string, values ...string) {
	t.Helper()
	for _, value := range values {
		wantRule(t, 1, pairs(name, value), api.Body{}, errno)
	}
}

// wantNone: the fields tell no body's end.
func wantNone(t *testing.T, minor int, list []api.Field) {
	t.Helper()
	wantRequest(t, api.Request{Minor: minor, Fields: list}, api.Body{}, api.OK)
	wantResponse(t, api.Response{Status: 200, Minor: minor, Fields: list}, "GET", api.Body{Kind: api.BodyClose}, api.OK)
}

func wantLast(t *testing.T, minor int, list []api.Field, want bool) {
	t.Helper()
	if got := frame.Last(minor, list); got != want {
		t.Errorf("Last(%d, %+v) = %t", minor, list, got)
	}
}

// everyByte: the 256 texts of one byte.
func everyByte() []string {
	var all []string
	for c := range 256 {
		all = append(all, string([]byte{byte(c)}))
	}
	return all
}

// everyText: all texts of at most n parts.
func everyText(n int, parts ...string) []string {
	all, last := []string{""}, []string{""}
	for range n {
		var longer []string
		for _, s := range last {
			for _, part := range parts {
				longer = append(longer, s+part)
			}
		}
		all, last = append(all, longer...), longer
	}
	return all
}

// everyList: all lists of at most n of the fields.
func everyList(n int, menu []api.Field) [][]api.Field {
	all, last := [][]api.Field{nil}, [][]api.Field{nil}
	for range n {
		var longer [][]api.Field
		for _, list := range last {
			for _, field := range menu {
				longer = append(longer, append(slices.Clone(list), field))
			}
		}
		all, last = append(all, longer...), longer
	}
	return all
}

// eachCase: the name in small letters, in great ones, as it is, and with each of its letters in the other case.
func eachCase(name string) []string {
	all := []string{name, strings.ToLower(name), strings.ToUpper(name)}
	for i := range len(name) {
		c := name[i : i+1]
		if other := strings.ToUpper(c); other != c {
			all = append(all, name[:i]+other+name[i+1:])
		} else if other := strings.ToLower(c); other != c {
			all = append(all, name[:i]+other+name[i+1:])
		}
	}
	return all
}

// almost: names that are nearly the given one, and aren't.
func almost(name string) []string {
	all := []string{
		"", name[1:], name[:len(name)-1], name + "s", "X-" + name, " " + name, name + " ", name + ":", name + "\x00",
		strings.ReplaceAll(name, "n", "\u019e"), strings.ReplaceAll(name, "n", "o"),
	}
	if strings.Contains(name, "-") {
		all = append(all, strings.ReplaceAll(name, "-", "_"), strings.ReplaceAll(name, "-", ""))
	}
	return all
}

func anyMinors() []int {
	return []int{0, 1, 2, 9, 10, -1, math.MinInt64, math.MaxInt64, 1 << 32, -(1 << 32)}
}

// The fields' rule

func TestExamplesOfTheRule(t *testing.T) {
	wantRule(t, 1, pairs(size, "5", size, "5, 05"), length(5), api.OK)
	wantRule(t, 1, pairs(size, "5", size, "6"), api.Body{}, api.ErrLength)
	wantWrong(t, api.ErrLength, size, "-1", "", "1e1")
	wantRule(t, 1, pairs(coding, "Chunked"), chunked(), api.OK)
	wantRule(t, 1, pairs(coding, "gzip, chunked"), api.Body{}, api.ErrCoding)
	wantRule(t, 1, pairs(coding, "chunked", size, "5"), api.Body{}, api.ErrBoth)
	wantResponse(t, api.Response{Status: 200, Minor: 1, Fields: pairs(coding, "chunked", size, "5")}, "HEAD", api.Body{}, api.OK)
}

// The numbers of the kinds are what callers hold answers against.
func TestKinds(t *testing.T) {
	wantRequest(t, api.Request{}, api.Body{Kind: 0, Length: 0}, 0)
	wantRequest(t, api.Request{Minor: 1, Fields: pairs(size, "7")}, api.Body{Kind: 1, Length: 7}, 0)
	wantRequest(t, api.Request{Minor: 1, Fields: pairs(coding, "chunked")}, api.Body{Kind: 2, Length: 0}, 0)
	wantResponse(t, api.Response{}, "", api.Body{Kind: 3, Length: 0}, 0)
}

func TestNoFieldsOfTheRule(t *testing.T) {
	for _, minor := range anyMinors() {
		wantNone(t, minor, nil)
		wantNone(t, minor, []api.Field{})
		wantNone(t, minor, pairs("Host", "a", "Connection", "close", "TE", "chunked", "Trailer", size, "", "5", "5", ""))
	}
}

func TestNamesInEitherCase(t *testing.T) {
	for _, name := range eachCase(coding) {
		wantRule(t, 1, pairs(name, "chunked"), chunked(), api.OK)
		wantRule(t, 1, pairs(name, "chunked", size, "5"), api.Body{}, api.ErrBoth)
	}
	for _, name := range eachCase(size) {
		wantRule(t, 1, pairs(name, "5"), length(5), api.OK)
		wantRule(t, 1, pairs(coding, "chunked", name, "5"), api.Body{}, api.ErrBoth)
	}
}

func TestNamesThatAreNearlyThose(t *testing.T) {
	for _, name := range append(almost(coding), "Tran\u017ffer-Encoding") {
		wantNone(t, 1, pairs(name, "chunked"))
		wantNone(t, 1, pairs(name, "gzip"))
		wantRule(t, 1, pairs(name, "chunked", size, "5"), length(5), api.OK)
	}
	for _, name := range almost(size) {
		wantNone(t, 1, pairs(name, "5"))
		wantNone(t, 1, pairs(name, "x"))
		wantRule(t, 1, pairs(coding, "chunked", name, "5"), chunked(), api.OK)
	}
}

// 1: ErrBoth is told ahead of all else, whatever stands in the fields, in either order and beside others.
func TestCodedAndSized(t *testing.T) {
	for _, minor := range anyMinors() {
		for _, words := range []string{"chunked", "gzip", "gzip, chunked", "", ",", "\""} {
			for _, digits := range []string{"5", "0", "", "-1", "65537", "5, 6", "1e1", "1000000000000000000"} {
				wantRule(t, minor, pairs(coding, words, size, digits), api.Body{}, api.ErrBoth)
				wantRule(t, minor, pairs(size, digits, coding, words), api.Body{}, api.ErrBoth)
				wantRule(t, minor, pairs("a", "b", size, digits, "c", "d", coding, words, "e", "f"), api.Body{}, api.ErrBoth)
				wantRule(t, minor, pairs(size, digits, coding, words, size, digits), api.Body{}, api.ErrBoth)
				wantRule(t, minor, pairs(coding, words, size, digits, coding, words), api.Body{}, api.ErrBoth)
			}
		}
	}
}

// 2
func TestCodedByMinor(t *testing.T) {
	for _, minor := range anyMinors() {
		if minor == 0 {
			wantRule(t, minor, pairs(coding, "chunked"), api.Body{}, api.ErrCoding)
		} else {
			wantRule(t, minor, pairs(coding, "chunked"), chunked(), api.OK)
		}
		wantRule(t, minor, pairs(coding, "gzip"), api.Body{}, api.ErrCoding)
		wantRule(t, minor, pairs(coding, ""), api.Body{}, api.ErrCoding)
	}
}

func TestCodedOnce(t *testing.T) {
	for _, value := range append(eachCase("chunked"), " chunked", "chunked\t", "\t Chunked ", ",chunked", "chunked,", " , ,\tchunked , ,") {
		wantRule(t, 1, pairs(coding, value), chunked(), api.OK)
	}
	wantWrong(t, api.ErrCoding, coding,
		"", " ", "\t", ",", " , ,", "gzip", "identity", "gzip, chunked", "chunked, gzip", "chunked,chunked", "chunked, Chunked", "chunked, identity",
		"chunked gzip", "chunked;", "chunked;a=b", "chunked ;a=b", "\"chunked\"", "\"chunked", "chunked\"", "\"\"", "chunked,\"", "chunked, \"\"", "\"chunked,chunked\"",
		"chunke", "hunked", "chunkedd", "xchunked", "chunked\x00", "\x00chunked", "chunked\x0b", "chunked\r\n", "\r\nchunked", "\vchunked", "chunked\u00a0", "chun\u212aed", "5",
	)
}

func TestCodedSeveralTimes(t *testing.T) {
	for _, values := range [][]string{{"chunked", ""}, {"", "chunked"}, {" ", ",", "Chunked", "", ", ,"}} {
		wantRule(t, 1, named(coding, values...), chunked(), api.OK)
	}
	for _, values := range [][]string{
		{"chunked", "chunked"}, {"chunked", "Chunked"}, {"gzip", "chunked"}, {"chunked", "gzip"}, {"", ""}, {"", "gzip"}, {"chunked", "", "x"},
		{"chunked", "\""}, {"\"", "chunked"}, {"\"", "chunked\""}, {"chun", "ked"},
	} {
		wantRule(t, 1, named(coding, values...), api.Body{}, api.ErrCoding)
	}
	wantRule(t, 1, pairs(coding, "chunked", "X", "y", "transfer-encoding", "chunked"), api.Body{}, api.ErrCoding)
	wantRule(t, 1, pairs(coding, "gzip", "X", "y", "transfer-encoding", "chunked"), api.Body{}, api.ErrCoding)
	wantRule(t, 1, pairs(coding, "", "X", "y", "transfer-encoding", "chunked"), chunked(), api.OK)
}

// Blanks and a comma may stand around the word, and nothing else.
func TestEachByteAroundTheCoding(t *testing.T) {
	for _, c := range everyByte() {
		want, errno := api.Body{}, api.ErrCoding
		if strings.Contains(" \t,", c) {
			want, errno = chunked(), api.OK
		}
		wantRule(t, 1, pairs(coding, "chunked"+c), want, errno)
		wantRule(t, 1, pairs(coding, c+"chunked"), want, errno)
		wantRule(t, 1, pairs(coding, "chu"+c+"nked"), api.Body{}, api.ErrCoding)
	}
}

// 3
func TestSizedOnce(t *testing.T) {
	for value, n := range map[string]int{
		"0": 0, "1": 1, "5": 5, "9": 9, "10": 10, "65535": 65535, "65536": 65536, "05": 5, "00": 0, "0065536": 65536,
		" 5": 5, "5\t": 5, "\t 5 \t": 5, "5,": 5, ",5": 5, " , ,5 ,, ": 5, "5, 5": 5, "5,5": 5, "5 ,\t05,005": 5, "0,00,000": 0, "65536, 065536": 65536,
	} {
		wantRule(t, 1, pairs(size, value), length(n), api.OK)
	}
}

func TestSizedOfAnyMinor(t *testing.T) {
	for _, minor := range anyMinors() {
		wantRule(t, minor, pairs(size, "5"), length(5), api.OK)
		wantRule(t, minor, pairs(size, "x"), api.Body{}, api.ErrLength)
		wantRule(t, minor, pairs(size, "65537"), api.Body{}, api.ErrBody)
	}
}

func TestSizedWithoutAnElement(t *testing.T) {
	wantWrong(t, api.ErrLength, size, "", " ", "\t", ",", ",,", " , \t,")
	wantRule(t, 1, named(size, "", ""), api.Body{}, api.ErrLength)
	wantRule(t, 1, named(size, "", ",", " "), api.Body{}, api.ErrLength)
}

func TestSizedByWhatIsNoNumber(t *testing.T) {
	wantWrong(t, api.ErrLength, size,
		"-1", "+1", "-0", "+0", "- 1", "1-", "1+", "1e1", "1.0", "1.", ".1", "0x1", "0b1", "0o1", "1_0", "1'0", "1 0", "1\t0", "1;0", "x", "five", "a5", "5a",
		"\"5\"", "\"5", "5\"", "\"\"", "\"5,5\"", "\"5\", 5", "5, \"5\"", "5, \"", "5;a=b", "5, 5x", "x, 5", "5, -5", "5 5", "5, 5 5",
		"5\x00", "\x005", "5\r\n", "5\n", "\v5", "5\u00a0", "\u0665", "\uff15", "\xb2", "\xc2\xb2", "NaN", "inf", "nil",
	)
}

// Digits make numbers; blanks and commas may stand around them; nothing else may.
func TestEachByteOfALength(t *testing.T) {
	for _, c := range everyByte() {
		switch {
		case "0" <= c && c <= "9":
			n, _ := strconv.Atoi(c)
			wantRule(t, 1, pairs(size, c), length(n), api.OK)
			wantRule(t, 1, pairs(size, c+"5"), length(10*n+5), api.OK)
			wantRule(t, 1, pairs(size, "5"+c), length(50+n), api.OK)
		case strings.Contains(" \t,", c):
			wantRule(t, 1, pairs(size, c), api.Body{}, api.ErrLength)
			wantRule(t, 1, pairs(size, c+"5"), length(5), api.OK)
			wantRule(t, 1, pairs(size, "5"+c), length(5), api.OK)
		default:
			wantWrong(t, api.ErrLength, size, c, c+"5", "5"+c, "5"+c+"5", "5,"+c, c+",5")
		}
	}
	wantRule(t, 1, pairs(size, "5,5"), length(5), api.OK)
	wantWrong(t, api.ErrLength, size, "5 5", "5\t5")
}

func TestDigitsOfALength(t *testing.T) {
	for n := range 25 {
		noughts := strings.Repeat("0", n)
		nines := strings.Repeat("9", n)
		if n >= 1 && n <= 18 {
			wantRule(t, 1, pairs(size, noughts), length(0), api.OK)
		} else {
			wantWrong(t, api.ErrLength, size, noughts)
		}
		switch {
		case n < 18:
			wantRule(t, 1, pairs(size, noughts+"5"), length(5), api.OK)
			wantRule(t, 1, pairs(size, "5, "+noughts+"5"), length(5), api.OK)
		default:
			wantWrong(t, api.ErrLength, size, noughts+"5", "5, "+noughts+"5")
		}
		switch {
		case n >= 5 && n <= 18:
			wantRule(t, 1, pairs(size, nines), api.Body{}, api.ErrBody)
		case n > 18:
			wantWrong(t, api.ErrLength, size, nines)
		}
	}
	wantRule(t, 1, pairs(size, "000000000000065536"), length(65536), api.OK)
	wantWrong(t, api.ErrLength, size, "0000000000000065536", "1000000000000000000", "9223372036854775807", "9223372036854775808", "18446744073709551621", strings.Repeat("9", 10000))
	wantWrong(t, api.ErrBody, size, "100000000000000000", "999999999999999999", "000000000000065537", "999999999999999999, 999999999999999999")
}

func TestLengthsThatAreAlikeAndUnlike(t *testing.T) {
	for _, values := range [][]string{{"5", "5"}, {"5", "05"}, {"005", "5", "05, 5"}, {"5", ""}, {"", "5"}, {"", " ,", "5", "", "5,", ",5"}} {
		wantRule(t, 1, named(size, values...), length(5), api.OK)
	}
	for _, values := range [][]string{
		{"5", "6"}, {"6", "5"}, {"5", "5", "6"}, {"5", "6", "5"}, {"6", "5", "5"}, {"5, 6"}, {"5, 5, 6"}, {"5,5", "6,6"}, {"5", "", "6"}, {"5", "50"}, {"0", "5"}, {"5", "0"},
		{"5", "-5"}, {"-5", "5"}, {"x", "5"}, {"5", "x"}, {"x", "x"}, {"5", "x", "5"}, {"5", "x", "6"}, {"\"5", "5\""}, {"5", "\"", "5"}, {"0", "x"}, {"x", "0"}, {"x", "y"},
		{"", "x"}, {"5", "0000000000000000005"}, {"100000000000000000", "100000000000000001"}, {"5", "4294967301"}, {"5", "18446744073709551621"},
	} {
		wantRule(t, 1, named(size, values...), api.Body{}, api.ErrLength)
	}
	wantRule(t, 1, pairs(size, "5", "X", "6", "content-length", "5"), length(5), api.OK)
	wantRule(t, 1, pairs(size, "5", "X", "5", "content-length", "6"), api.Body{}, api.ErrLength)
}

func TestGreatestBody(t *testing.T) {
	for _, n := range []int{0, 1, 65535, 65536} {
		wantRule(t, 1, pairs(size, strconv.Itoa(n)), length(n), api.OK)
	}
	for _, n := range []int{65537, 65538, 65546, 131072, 1 << 31, 1 << 32, 1<<32 + 5, 1 << 48} {
		wantRule(t, 1, pairs(size, strconv.Itoa(n)), api.Body{}, api.ErrBody)
	}
	wantRule(t, 1, named(size, "65537", "065537"), api.Body{}, api.ErrBody)
}

// Lengths that are wrong in another way are told as ErrLength, even where the first one is too great.
func TestWhichErrorOfALength(t *testing.T) {
	wantWrong(t, api.ErrLength, size, "65537, x", "x, 65537", "65537, 65538", "65537, 5", "5, 65537", "65537, \"", "65537, 1000000000000000000")
	wantRule(t, 1, named(size, "65537", "5"), api.Body{}, api.ErrLength)
	wantRule(t, 1, named(size, "65537", "-1"), api.Body{}, api.ErrLength)
	wantRule(t, 1, named(size, "65537", "", "65538"), api.Body{}, api.ErrLength)
}

func TestManyFieldsOfOneName(t *testing.T) {
	many := slices.Repeat([]string{"5", "05, 5", ""}, 20000)
	wantRule(t, 1, named(size, many...), length(5), api.OK)
	if got, e := frame.OfRequest(api.Request{Fields: named(size, append(many, "6")...)}); got != (api.Body{}) || e != api.ErrLength {
		t.Errorf("the last of many lengths is unlike: %+v, %d", got, e)
	}
	wantRule(t, 1, pairs(size, strings.Repeat("5,", 100000)), length(5), api.OK)
}

// P6.1

func TestOfRequestOfAnyMethodAndTarget(t *testing.T) {
	for _, method := range []string{"", "GET", "HEAD", "POST", "CONNECT", "TRACE", "head", "a b", "\x00"} {
		for _, target := range []string{"", "/", "a:443", "http://a/", " "} {
			request := func(minor int, list ...string) api.Request {
				return api.Request{Method: method, Target: target, Minor: minor, Fields: pairs(list...)}
			}
			wantRequest(t, request(1), api.Body{Kind: api.BodyNone}, api.OK)
			wantRequest(t, request(0), api.Body{Kind: api.BodyNone}, api.OK)
			wantRequest(t, request(1, size, "5"), length(5), api.OK)
			wantRequest(t, request(1, size, "0"), length(0), api.OK)
			wantRequest(t, request(1, coding, "chunked"), chunked(), api.OK)
			wantRequest(t, request(0, coding, "chunked"), api.Body{}, api.ErrCoding)
			wantRequest(t, request(1, size, "5", coding, "chunked"), api.Body{}, api.ErrBoth)
			wantRequest(t, request(1, size, "five"), api.Body{}, api.ErrLength)
			wantRequest(t, request(1, size, "65537"), api.Body{}, api.ErrBody)
		}
	}
}

// P6.2

// ruleLists: lists of fields, with what the rule says of them for version 1.1, beside what it says for none.
func ruleLists() []struct {
	list  []api.Field
	body  api.Body
	errno api.Errno
} {
	return []struct {
		list  []api.Field
		body  api.Body
		errno api.Errno
	}{
		{nil, api.Body{Kind: api.BodyClose}, api.OK},
		{pairs("A", "b"), api.Body{Kind: api.BodyClose}, api.OK},
		{pairs(size, "5"), length(5), api.OK},
		{pairs(size, "0"), length(0), api.OK},
		{pairs(coding, "chunked"), chunked(), api.OK},
		{pairs(coding, "gzip"), api.Body{}, api.ErrCoding},
		{pairs(size, "x"), api.Body{}, api.ErrLength},
		{pairs(size, "65537"), api.Body{}, api.ErrBody},
		{pairs(size, "5", coding, "chunked"), api.Body{}, api.ErrBoth},
		{pairs(coding, "x", size, "y"), api.Body{}, api.ErrBoth},
	}
}

func anyStatuses() []int {
	all := []int{math.MinInt64, math.MaxInt64, -(1 << 32), 1 << 32, 1<<32 + 204, 1<<32 + 100, 1<<32 + 304, 256 + 204, 65536 + 204, 65536 + 304}
	for status := -350; status <= 1350; status++ {
		all = append(all, status)
	}
	return all
}

func TestOfResponseOfEachStatusAndMethod(t *testing.T) {
	withoutABody := regexp.MustCompile(`^(1..|204|304)$`)
	joined := regexp.MustCompile(`^2..$`)
	for _, method := range []string{"GET", "HEAD", "CONNECT", "POST", "", "head", "Head", "connect", "Connect", "HEAD ", " HEAD", "HEADS", "HEA", "CONNECT ", "CONNEC", "HEAD\x00"} {
		for _, status := range anyStatuses() {
			digits := strconv.Itoa(status)
			empty := method == "HEAD" || withoutABody.MatchString(digits) || method == "CONNECT" && joined.MatchString(digits)
			for _, c := range ruleLists() {
				want, errno := c.body, c.errno
				if empty {
					want, errno = api.Body{Kind: api.BodyNone}, api.OK
				}
				wantResponse(t, api.Response{Status: status, Minor: 1, Fields: c.list}, method, want, errno)
			}
		}
	}
}

// The edges of the statuses, written out.
func TestOfResponseAtTheEdges(t *testing.T) {
	both := pairs(coding, "x", size, "y")
	for _, c := range []struct {
		status int
		method string
		errno  api.Errno
	}{
		{99, "GET", api.ErrBoth}, {100, "GET", api.OK}, {101, "GET", api.OK}, {199, "GET", api.OK}, {200, "GET", api.ErrBoth},
		{203, "GET", api.ErrBoth}, {204, "GET", api.OK}, {205, "GET", api.ErrBoth}, {299, "GET", api.ErrBoth}, {300, "GET", api.ErrBoth},
		{303, "GET", api.ErrBoth}, {304, "GET", api.OK}, {305, "GET", api.ErrBoth}, {0, "GET", api.ErrBoth}, {-100, "GET", api.ErrBoth}, {1000, "GET", api.ErrBoth},
		{99, "CONNECT", api.ErrBoth}, {100, "CONNECT", api.OK}, {199, "CONNECT", api.OK}, {200, "CONNECT", api.OK}, {204, "CONNECT", api.OK}, {299, "CONNECT", api.OK},
		{300, "CONNECT", api.ErrBoth}, {304, "CONNECT", api.OK}, {404, "CONNECT", api.ErrBoth}, {200, "connect", api.ErrBoth}, {299, "Connect", api.ErrBoth},
		{200, "HEAD", api.OK}, {99, "HEAD", api.OK}, {404, "HEAD", api.OK}, {0, "HEAD", api.OK}, {-1, "HEAD", api.OK}, {600, "HEAD", api.OK}, {200, "head", api.ErrBoth}, {200, "Head", api.ErrBoth},
	} {
		wantResponse(t, api.Response{Status: c.status, Minor: 1, Fields: both}, c.method, api.Body{Kind: api.BodyNone}, c.errno)
	}
}

func TestOfResponseOfAnyMinor(t *testing.T) {
	for _, minor := range anyMinors() {
		response := func(status int, list ...string) api.Response {
			return api.Response{Status: status, Reason: "Any", Minor: minor, Fields: pairs(list...)}
		}
		wantResponse(t, response(200), "GET", api.Body{Kind: api.BodyClose}, api.OK)
		wantResponse(t, response(200), "CONNECT", api.Body{Kind: api.BodyNone}, api.OK)
		wantResponse(t, response(304, coding, "gzip"), "GET", api.Body{Kind: api.BodyNone}, api.OK)
		wantResponse(t, response(404, coding, "gzip"), "GET", api.Body{}, api.ErrCoding)
	}
}

// All short lists of fields and all short values, held against an oracle

var digitsPattern = regexp.MustCompile(`^[0-9]{1,18}$`)

// elementsOf: the elements of all values of a name, one value after the other.
func elementsOf(list []api.Field, name string) ([]string, bool) {
	var elements []string
	found := false
	for _, field := range list {
		if strings.EqualFold(field.Name, name) {
			found = true
			elements = append(elements, tok.List(field.Value)...)
		}
	}
	return elements, found
}

// oracle: what the fields' rule says, BodyClose where it says none. It is for texts of the bytes below 128 alone: EqualFold knows more letters of two cases than the document does.
func oracle(minor int, list []api.Field) (api.Body, api.Errno) {
	words, coded := elementsOf(list, coding)
	lengths, sized := elementsOf(list, size)
	if coded && sized {
		return api.Body{}, api.ErrBoth
	}
	if coded {
		if minor != 0 && len(words) == 1 && strings.EqualFold(words[0], "chunked") {
			return chunked(), api.OK
		}
		return api.Body{}, api.ErrCoding
	}
	if !sized {
		return api.Body{Kind: api.BodyClose}, api.OK
	}
	var numbers []*big.Int
	for _, digits := range lengths {
		if !digitsPattern.MatchString(digits) {
			return api.Body{}, api.ErrLength
		}
		n, _ := new(big.Int).SetString(digits, 10)
		numbers = append(numbers, n)
	}
	numbers = slices.CompactFunc(numbers, func(a, b *big.Int) bool { return a.Cmp(b) == 0 })
	if len(numbers) != 1 {
		return api.Body{}, api.ErrLength
	}
	if numbers[0].Cmp(big.NewInt(65536)) > 0 {
		return api.Body{}, api.ErrBody
	}
	return length(int(numbers[0].Int64())), api.OK
}

func oracleLast(minor int, list []api.Field) bool {
	words, _ := elementsOf(list, connection)
	has := func(word string) bool {
		return slices.ContainsFunc(words, func(w string) bool { return strings.EqualFold(w, word) })
	}
	return has("close") || minor == 0 && !has("keep-alive")
}

func wantAsOracle(t *testing.T, minor int, list []api.Field) {
	t.Helper()
	want, errno := oracle(minor, list)
	wantResponse(t, api.Response{Status: 200, Minor: minor, Fields: list}, "GET", want, errno)
	wantResponse(t, api.Response{Status: 200, Minor: minor, Fields: list}, "HEAD", api.Body{}, api.OK)
	if want.Kind == api.BodyClose {
		want.Kind = api.BodyNone
	}
	wantRequest(t, api.Request{Minor: minor, Fields: list}, want, errno)
	wantLast(t, minor, list, oracleLast(minor, list))
}

func TestAllShortLists(t *testing.T) {
	menu := pairs(
		coding, "chunked", "transfer-encoding", "CHUNKED", coding, "gzip", coding, "", size, "5", "CONTENT-length", "05,5", size, "6", size, "", size, "x", size, "65537",
		connection, "close", "connection", "Keep-Alive", "Host", "a",
	)
	for _, list := range everyList(4, menu) {
		for _, minor := range []int{0, 1} {
			wantAsOracle(t, minor, list)
		}
	}
}

func TestAllShortValuesOfALength(t *testing.T) {
	for _, value := range everyText(5, "0", "5", "65536", ",", " ", "\"", "-", "\\") {
		wantAsOracle(t, 1, pairs(size, value))
	}
	for _, value := range everyText(3, "5", "05", "65537", ",", "\"", "x") {
		for _, other := range everyText(2, "5", "65537", ",", "\"", " ") {
			wantAsOracle(t, 1, pairs(size, value, size, other))
		}
	}
}

func TestAllShortValuesOfACoding(t *testing.T) {
	for _, value := range everyText(5, "chunked", "Chunked", ",", " ", "\"", "\\", "x") {
		wantAsOracle(t, 1, pairs(coding, value))
	}
}

func FuzzFrame(f *testing.F) {
	f.Add(1, coding, "chunked", size, "5")
	f.Add(0, size, "5, 05", "content-length", "65536")
	f.Add(1, connection, "x, Close", coding, "\"chunked\"")
	f.Add(2, size, "999999999999999999", connection, "keep-alive")
	f.Fuzz(func(t *testing.T, minor int, name, value, other, otherValue string) {
		for _, s := range []string{name, value, other, otherValue} {
			if strings.ContainsFunc(s, func(r rune) bool { return r > 127 }) {
				t.Skip()
			}
		}
		wantAsOracle(t, minor, pairs(name, value, other, otherValue))
		wantAsOracle(t, minor, pairs(size, value, size, otherValue))
		wantAsOracle(t, minor, pairs(coding, value, "X", otherValue))
		wantAsOracle(t, minor, pairs(connection, value, connection, otherValue))
	})
}

// P6.3

func TestLast(t *testing.T) {
	for _, c := range []struct {
		values        []string
		by10, byOther bool
	}{
		{nil, true, false},
		{[]string{""}, true, false},
		{[]string{" , "}, true, false},
		{[]string{"close"}, true, true},
		{[]string{"keep-alive"}, false, false},
		{[]string{"close, keep-alive"}, true, true},
		{[]string{"keep-alive, close"}, true, true},
		{[]string{"keep-alive", "close"}, true, true},
		{[]string{"close", "keep-alive"}, true, true},
		{[]string{"x"}, true, false},
		{[]string{"x, y", "z"}, true, false},
		{[]string{"x, Close"}, true, true},
		{[]string{"x", "CLOSE", "y"}, true, true},
		{[]string{"x, Keep-Alive ,y"}, false, false},
		{[]string{"x", "", "KEEP-ALIVE"}, false, false},
		{[]string{"keep-alive, keep-alive"}, false, false},
		{[]string{"\tclose "}, true, true},
		{[]string{",close,"}, true, true},
		{[]string{"closed"}, true, false},
		{[]string{"close x"}, true, false},
		{[]string{"close;a=b"}, true, false},
		{[]string{"\"close\""}, true, false},
		{[]string{"\"x, close"}, true, false},
		{[]string{"\"x", "close"}, true, true},
		{[]string{"keep-alive, \"x, close\""}, false, false},
		{[]string{"\"keep-alive\""}, true, false},
		{[]string{"\"x, keep-alive"}, true, false},
		{[]string{"\"", "keep-alive"}, false, false},
		{[]string{"keepalive"}, true, false},
		{[]string{"keep-alives"}, true, false},
		{[]string{"keep_alive"}, true, false},
		{[]string{"keep", "-alive"}, true, false},
		{[]string{"clo", "se"}, true, false},
		{[]string{"clo\u017fe"}, true, false},
		{[]string{"\u212aeep-alive"}, true, false},
		{[]string{"close\x00"}, true, false},
		{[]string{"keep-alive\x00"}, true, false},
	} {
		list := named(connection, c.values...)
		for _, minor := range anyMinors() {
			want := c.byOther
			if minor == 0 {
				want = c.by10
			}
			wantLast(t, minor, list, want)
		}
	}
}

func TestLastOfNoFields(t *testing.T) {
	wantLast(t, 0, nil, true)
	wantLast(t, 1, nil, false)
	wantLast(t, 0, []api.Field{}, true)
	wantLast(t, 1, []api.Field{}, false)
}

func TestLastOfWordsAndNamesInEitherCase(t *testing.T) {
	for _, name := range eachCase(connection) {
		wantLast(t, 1, pairs(name, "close"), true)
		wantLast(t, 0, pairs(name, "keep-alive"), false)
		wantLast(t, 0, pairs("connection", "keep-alive", name, "close"), true)
	}
	for _, word := range eachCase("close") {
		wantLast(t, 1, pairs(connection, word), true)
		wantLast(t, 0, pairs(connection, "keep-alive, "+word), true)
	}
	for _, word := range eachCase("keep-alive") {
		wantLast(t, 0, pairs(connection, word), false)
		wantLast(t, 1, pairs(connection, word), false)
	}
}

// Fields of other names say nothing of it: neither a length, nor a coding, nor those of other proxies.
func TestLastOfOtherNames(t *testing.T) {
	for _, name := range append(almost(connection), "Proxy-Connection", "Keep-Alive", "Close", coding, size) {
		wantLast(t, 1, pairs(name, "close"), false)
		wantLast(t, 0, pairs(name, "keep-alive"), true)
		wantLast(t, 0, pairs(name, "close", connection, "keep-alive"), false)
	}
	wantLast(t, 1, pairs(coding, "chunked", size, "5"), false)
	wantLast(t, 0, pairs(coding, "chunked", size, "5", connection, "Keep-Alive"), false)
}

func TestLastOfAllShortValues(t *testing.T) {
	for _, value := range everyText(5, "close", "Keep-Alive", ",", " ", "x", "\"") {
		for _, minor := range []int{0, 1} {
			list := pairs(connection, value)
			wantLast(t, minor, list, oracleLast(minor, list))
		}
	}
}

// P6.4, rules 1 and 5, P1 and P2

// withRoom: a copy of list in memory that goes on behind its length, and the whole memory.
func withRoom[T any](list []T, filling T) ([]T, []T) {
	whole := slices.Concat(list, slices.Repeat([]T{filling}, 8))
	return whole[:len(list)], whole
}

// oddLists: lists of fields of any names and values.
func oddLists() [][]api.Field {
	menu := pairs(coding, "Chunked", size, "5, 05", size, "\"5", connection, "Close", "", "", "\xc4\x00", "\xff\r\n", " ", ",", size, " \t", "a\"", "\\")
	lists := everyList(3, menu)
	for _, c := range everyByte() {
		lists = append(lists, pairs(c, c), pairs(size, c), pairs(coding, c, connection, c))
	}
	return append(lists, slices.Repeat(pairs("A", "B", size, "7"), 101))
}

// What lies behind the length of the list is neither read nor changed.
func TestTheFieldsStayAsTheyWere(t *testing.T) {
	for _, filling := range pairs(coding, "chunked", size, "6", connection, "close") {
		for _, as := range oddLists() {
			list, memory := withRoom(as, filling)
			before := slices.Clone(memory)
			for _, minor := range []int{0, 1} {
				got, e := frame.OfRequest(api.Request{Method: "GET", Target: "/", Minor: minor, Fields: list})
				wantRequest(t, api.Request{Method: "GET", Target: "/", Minor: minor, Fields: slices.Clone(as)}, got, e)
				got, e = frame.OfResponse(api.Response{Status: 200, Minor: minor, Fields: list}, "GET")
				wantResponse(t, api.Response{Status: 200, Minor: minor, Fields: slices.Clone(as)}, "GET", got, e)
				wantLast(t, minor, slices.Clone(as), frame.Last(minor, list))
			}
			if !slices.Equal(memory, before) {
				t.Fatalf("%+v became %+v", before, memory)
			}
		}
	}
}

func TestCallsEndAndAnswerTheSameTwice(t *testing.T) {
	type answer struct {
		ofRequest, ofResponse   api.Body
		requestErr, responseErr api.Errno
		last                    bool
	}
	ask := func(method string, minor, status int, list []api.Field) answer {
		var a answer
		a.ofRequest, a.requestErr = frame.OfRequest(api.Request{Method: method, Target: method, Minor: minor, Fields: list})
		a.ofResponse, a.responseErr = frame.OfResponse(api.Response{Status: status, Reason: method, Minor: minor, Fields: list}, method)
		a.last = frame.Last(minor, list)
		return a
	}
	for _, list := range oddLists() {
		for _, minor := range anyMinors() {
			for _, status := range []int{math.MinInt64, -1, 0, 100, 204, 304, 500, math.MaxInt64} {
				for _, method := range []string{"", "GET", "HEAD", "CONNECT", "\xff\x00"} {
					if one, two := ask(method, minor, status, list), ask(method, minor, status, list); one != two {
						t.Fatalf("%q, %d, %d, %+v: %+v, then %+v", method, minor, status, list, one, two)
					}
				}
			}
		}
	}
}

// With an error the body is its zero value, and without one it is of a kind and a length that go together.
func TestBodiesAreWhole(t *testing.T) {
	wantWhole := func(body api.Body, e api.Errno, list []api.Field) {
		t.Helper()
		sized := body.Kind == api.BodyLength && body.Length >= 0 && body.Length <= api.BodyCap
		if e != api.OK && body != (api.Body{}) || e == api.OK && !sized && body.Length != 0 {
			t.Errorf("%+v: %+v, %d", list, body, e)
		}
	}
	for _, list := range oddLists() {
		for _, minor := range []int{0, 1} {
			body, e := frame.OfRequest(api.Request{Minor: minor, Fields: list})
			wantWhole(body, e, list)
			body, e = frame.OfResponse(api.Response{Status: 200, Minor: minor, Fields: list}, "GET")
			wantWhole(body, e, list)
		}
	}
}
