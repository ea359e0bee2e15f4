package ranges_test

import (
	"bytes"
	"fmt"
	"math"
	"slices"
	"strconv"
	"strings"
	"testing"

	"conduit/api"
	"conduit/ranges"
)

const (
	early = "Thu, 01 Jan 1970 00:01:40 GMT"
	late  = "Thu, 01 Jan 1970 00:16:40 GMT"
)

// pairs: the fields of names and values by turns.
func pairs(texts ...string) []api.Field {
	var list []api.Field
	for i := 0; i < len(texts); i += 2 {
		list = append(list, api.Field{Name: texts[i], Value: texts[i+1]})
	}
	return list
}

// spans: the spans of first and last bytes by turns.
func spans(ends ...int) []api.Span {
	var list []api.Span
	for i := 0; i < len(ends); i += 2 {
		list = append(list, api.Span{First: ends[i], Last: ends[i+1]})
	}
	return list
}

// whole: a response of Status 200 with these fields.
func whole(texts ...string) api.Response {
	return api.Response{Status: 200, Reason: "OK", Minor: 1, Fields: pairs(texts...)}
}

// part: a response with part of a whole one, with these fields.
func part(texts ...string) api.Response {
	return api.Response{Status: 206, Reason: "Partial Content", Minor: 1, Fields: pairs(texts...)}
}

// unsat: a response where no byte of what was asked for is there, with these fields.
func unsat(texts ...string) api.Response {
	return api.Response{Status: 416, Reason: "Range Not Satisfiable", Minor: 1, Fields: pairs(texts...)}
}

func wantSpans(t *testing.T, value string, size int, want ...int) {
	t.Helper()
	got, errno := ranges.Parse(value, size)
	if errno != api.OK || !slices.Equal(got, spans(want...)) {
		t.Errorf("Parse(%.300q, %d) = %v, %d; want %v", value, size, got, errno, want)
	}
}

func wantErrno(t *testing.T, value string, size int, want api.Errno) {
	t.Helper()
	if got, errno := ranges.Parse(value, size); errno != want || len(got) != 0 {
		t.Errorf("Parse(%.300q, %d) = %v, %d; want no span and %d", value, size, got, errno, want)
	}
}

func sameResponse(a, b api.Response) bool {
	return a.Status == b.Status && a.Reason == b.Reason && a.Minor == b.Minor && slices.Equal(a.Fields, b.Fields)
}

// shown: a response and its body, or the beginnings of them.
func shown(r api.Response, body []byte) string {
	return fmt.Sprintf("%d %q %d %d of %.200q, %d of %.600q", r.Status, r.Reason, r.Minor, len(r.Fields), r.Fields[:min(len(r.Fields), 10)], len(body), body)
}

func wantApplied(t *testing.T, ask []api.Field, r api.Response, body string, want api.Response, wantBody string) {
	t.Helper()
	got, gotBody := ranges.Apply(ask, r, []byte(body))
	if !sameResponse(got, want) || string(gotBody) != wantBody {
		t.Errorf("Apply(%.300q, %s)\n= %s\nwant %s", ask, shown(r, []byte(body)), shown(got, gotBody), shown(want, []byte(wantBody)))
	}
}

func wantAsItIs(t *testing.T, ask []api.Field, r api.Response, body string) {
	t.Helper()
	wantApplied(t, ask, r, body, r, body)
}

// P19.1: Parse

func TestParseOfTheChaptersExamples(t *testing.T) {
	wantSpans(t, "bytes=0-1, -1, 9-", 5, 0, 1, 4, 4)
	wantErrno(t, "bytes=9-", 5, api.ErrUnsat)
	wantErrno(t, "bytes=2-1", 5, api.ErrRange)
	wantSpans(t, "bytes=-9", 5, 0, 4)
}

func TestParseOfASizeBelowNought(t *testing.T) {
	for _, size := range []int{-1, -2, -5, math.MinInt, math.MinInt + 1} {
		for _, value := range []string{"bytes=0-", "bytes=0-0", "bytes=-1", "bytes=-0", "bytes=9-", "bytes=-999999999999999999", "bytes=0-0,-1", "bytes=", "x", ""} {
			wantErrno(t, value, size, api.ErrRange)
		}
	}
}

func TestParseOfTheSizeNought(t *testing.T) {
	for _, value := range []string{"bytes=0-", "bytes=0-0", "bytes=-1", "bytes=-0", "bytes=1-", "bytes=0-9", "bytes=-999999999999999999", "bytes=0-,-1,5-6"} {
		wantErrno(t, value, 0, api.ErrUnsat)
	}
	for _, value := range []string{"", "bytes=", "bytes=-", "bytes=1-0", "bytes=0-,x", "0-"} {
		wantErrno(t, value, 0, api.ErrRange)
	}
}

func TestParseOfGreatSizes(t *testing.T) {
	for _, size := range []int{math.MaxInt, math.MaxInt - 1, 1e18, 1e18 + 1} {
		wantSpans(t, "bytes=0-", size, 0, size-1)
		wantSpans(t, "bytes=-1", size, size-1, size-1)
		wantSpans(t, "bytes=-999999999999999999", size, size-999999999999999999, size-1)
		wantSpans(t, "bytes=999999999999999999-", size, 999999999999999999, size-1)
		wantSpans(t, "bytes=0-999999999999999999", size, 0, 999999999999999999)
	}
	wantErrno(t, "bytes=999999999999999999-", 999999999999999999, api.ErrUnsat)
	wantSpans(t, "bytes=0-999999999999999999", 999999999999999999, 0, 999999999999999998)
	wantSpans(t, "bytes=-999999999999999999", 999999999999999999, 0, 999999999999999998)
	wantSpans(t, "bytes=-999999999999999998", 999999999999999999, 1, 999999999999999998)
}

func TestParseOfTheUnitInEitherCase(t *testing.T) {
	for bits := range 32 {
		unit := []byte("bytes=")
		for i := range 5 {
			unit[i] -= byte(bits >> i & 1 * 32)
		}
		wantSpans(t, string(unit)+"1-2", 5, 1, 2)
		wantErrno(t, string(unit)+"5-", 5, api.ErrUnsat)
		wantErrno(t, string(unit), 5, api.ErrRange)
	}
}

func TestParseOfOtherBeginnings(t *testing.T) {
	for _, value := range []string{
		"", "=", "0-1", "=0-1", "b", "byte", "bytes", "byte=0-1", "bytes0-1", "bytes 0-1", "bytes:0-1", "bytes =0-1", " bytes=0-1", "\tbytes=0-1", "bits=0-1", "xbytes=0-1", "bytess=0-1", "bytes-0-1", "bytes,0-1", "0-1,bytes=0-1", "0-1bytes=", "items=0-1", "\"bytes=0-1\"", "bytes==0-1", "bytes=bytes=0-1", "byte\u017f=0-1", "byte\u017f0-1", "\x00bytes=0-1",
	} {
		wantErrno(t, value, 5, api.ErrRange)
	}
	for at := range "bytes=" {
		for c := range 256 {
			value := []byte("bytes=0-1")
			was := value[at]
			value[at] = byte(c)
			if c == int(was) || at < 5 && c == int(was)-32 {
				wantSpans(t, string(value), 5, 0, 1)
			} else {
				wantErrno(t, string(value), 5, api.ErrRange)
			}
		}
	}
}

func TestParseOfNoElement(t *testing.T) {
	for _, value := range []string{"bytes=", "bytes=,", "bytes=,,,,,,,,,,,,", "bytes= ", "bytes=\t", "bytes= , \t,\t "} {
		for _, size := range []int{-1, 0, 1, 5} {
			wantErrno(t, value, size, api.ErrRange)
		}
	}
}

func TestParseOfEightElementsAndOfNine(t *testing.T) {
	for n := 1; n <= 12; n++ {
		for _, element := range []string{"0-1", "0-", "-1", "9-", "-0"} {
			for _, comma := range []string{",", ", ", " ,\t,, "} {
				value := "bytes=" + comma + strings.Repeat(element+comma, n)
				var want []int
				for range n {
					want = append(want, map[string][]int{"0-1": {0, 1}, "0-": {0, 4}, "-1": {4, 4}}[element]...)
				}
				switch {
				case n > 8:
					wantErrno(t, value, 5, api.ErrRange)
				case want == nil:
					wantErrno(t, value, 5, api.ErrUnsat)
				default:
					wantSpans(t, value, 5, want...)
				}
			}
		}
	}
	// Elements without a span count, too.
	wantErrno(t, "bytes=0-0"+strings.Repeat(",9-", 8), 5, api.ErrRange)
	wantSpans(t, "bytes=0-0"+strings.Repeat(",9-", 7), 5, 0, 0)
	wantSpans(t, "bytes="+strings.Repeat("9-,", 7)+"0-0", 5, 0, 0)
	wantErrno(t, "bytes="+strings.Repeat("9-,", 8)+"0-0", 5, api.ErrRange)
	wantSpans(t, "bytes=0-0,1-1,2-2,3-3,4-4,0-1,0-2,0-3", 5, 0, 0, 1, 1, 2, 2, 3, 3, 4, 4, 0, 1, 0, 2, 0, 3)
}

func TestParseOfEmptyElementsAndBlanks(t *testing.T) {
	for _, value := range []string{"0-1,-1", ",0-1,-1", "0-1,-1,", ",,0-1,,,-1,,", " 0-1 , -1 ", "\t0-1\t,\t-1\t", " \t ,0-1 \t, ,\t, \t-1,", "0-1 ,-1", "0-1, -1", ",,,,,,,,,,0-1,,,,,,,,,,,-1"} {
		wantSpans(t, "bytes="+value, 5, 0, 1, 4, 4)
	}
	for _, value := range []string{"0 -1", "0- 1", "0 - 1", "- 1", "1 2-3", "1-2 3", "0-1 -1", "0-1;-1", "0-1\t-1", "0-1\n,-1", "0-1,\r\n-1", "\x0b0-1", "0-1\x0c", "0-1\x00", "\u00a00-1", "0-1,\u00a0", "0-1\u2003,-1"} {
		wantErrno(t, "bytes="+value, 5, api.ErrRange)
	}
}

func TestParseOfNumbersByTheirLength(t *testing.T) {
	for digits := 1; digits <= 40; digits++ {
		noughts, nines := strings.Repeat("0", digits), strings.Repeat("9", digits)
		one := noughts[1:] + "1"
		if digits > 18 {
			for _, number := range []string{noughts, nines, one} {
				for _, value := range []string{number + "-", "-" + number, "0-" + number, number + "-" + number, number + "-999999999999999999"} {
					wantErrno(t, "bytes="+value, 5, api.ErrRange)
				}
			}
			continue
		}
		wantSpans(t, "bytes="+noughts+"-", 5, 0, 4)
		wantSpans(t, "bytes="+noughts+"-"+one, 5, 0, 1)
		wantSpans(t, "bytes="+one+"-"+one, 5, 1, 1)
		wantSpans(t, "bytes="+one+"-1", 5, 1, 1)
		wantSpans(t, "bytes=1-"+one, 5, 1, 1)
		wantErrno(t, "bytes="+one+"-"+noughts, 5, api.ErrRange)
		wantSpans(t, "bytes=-"+one, 5, 4, 4)
		wantErrno(t, "bytes=-"+noughts, 5, api.ErrUnsat)
		wantSpans(t, "bytes=-"+nines, 5, 0, 4)
		wantSpans(t, "bytes=0-"+nines, 5, 0, 4)
		wantErrno(t, "bytes="+nines+"-", 5, api.ErrUnsat)
		wantErrno(t, "bytes="+nines+"-"+nines, 5, api.ErrUnsat)
	}
	// Numbers that would be small ones again, or below 0, in 64 bits.
	for _, number := range []string{"18446744073709551616", "18446744073709551617", "9223372036854775807", "9223372036854775808", "1000000000000000000", "100000000000000000000000000000000000000000"} {
		for _, value := range []string{number + "-", "-" + number, "0-" + number} {
			wantErrno(t, "bytes="+value, 5, api.ErrRange)
		}
	}
}

func TestParseOfNoNumbers(t *testing.T) {
	for _, element := range []string{
		"-", "--", "---", "1", "0", "12", "x", "a-", "-a", "a-b", "1-b", "a-1", "1-2-3", "1-2-", "-1-", "-1-2", "--1", "1--", "1--2", "+1-", "+1-2", "1-+2", "-+1", "1.0-", "1_0-", "1,-x", "0x1-", "1e0-", "1-2x", "x1-2", "*", "*/5", "0-*", "0-1/5", "=0-1", "bytes", "\"0-1\"", "\"0\"-1", "0-\"1\"", "\"0-1", "0-1\"", "\"\"", "0-1\",\"", "\\0-1", "\u0661-\u0662", "\uff10-", "0\u20131", "\xb2-", "1-\xb3", "NaN-", "(0-1)", "\x00-", "-\x00",
	} {
		wantErrno(t, "bytes="+element, 5, api.ErrRange)
		wantErrno(t, "bytes="+element, 0, api.ErrRange)
		// Beside sound elements, with spans and without, one that isn't sound is told all the same.
		wantErrno(t, "bytes=0-1, "+element, 5, api.ErrRange)
		wantErrno(t, "bytes="+element+",0-1", 5, api.ErrRange)
		wantErrno(t, "bytes=9-,"+element, 5, api.ErrRange)
		wantErrno(t, "bytes="+element+",9-", 5, api.ErrRange)
		wantErrno(t, "bytes=0-,-1,9-,-0,"+element+",0-,-1,9-", 5, api.ErrRange)
	}
}

// Each byte stands in the midst of a number, where blanks are no ends and a comma leaves a number without its dash.
func TestParseOfEachByteInNumbers(t *testing.T) {
	for c := range 256 {
		middle := "1" + string([]byte{byte(c)}) + "1"
		if '0' <= c && c <= '9' {
			n := 101 + 10*(c-'0')
			wantSpans(t, "bytes="+middle+"-", 500, n, 499)
			wantSpans(t, "bytes="+middle+"-333", 500, n, 333)
			wantSpans(t, "bytes=7-"+middle, 500, 7, n)
			wantSpans(t, "bytes=-"+middle, 500, 500-n, 499)
			continue
		}
		for _, element := range []string{middle + "-", middle + "-333", "7-" + middle, "-" + middle} {
			wantErrno(t, "bytes="+element, 500, api.ErrRange)
			wantErrno(t, "bytes=0-1,"+element, 500, api.ErrRange)
		}
	}
}

func TestParseOfASecondNumberByTheFirst(t *testing.T) {
	for first := range 12 {
		for last := range 12 {
			value := "bytes=" + strconv.Itoa(first) + "-" + strconv.Itoa(last)
			for size := range 12 {
				switch {
				case last < first:
					wantErrno(t, value, size, api.ErrRange)
				case first >= size:
					wantErrno(t, value, size, api.ErrUnsat)
				default:
					wantSpans(t, value, size, first, min(last, size-1))
				}
			}
		}
	}
	wantErrno(t, "bytes=999999999999999999-999999999999999998", 5, api.ErrRange)
	wantErrno(t, "bytes=999999999999999999-999999999999999999", 5, api.ErrUnsat)
	// Held against each other as numbers, and not as texts.
	wantSpans(t, "bytes=9-10", 20, 9, 10)
	wantSpans(t, "bytes=09-9", 20, 9, 9)
	wantErrno(t, "bytes=10-9", 20, api.ErrRange)
	wantErrno(t, "bytes=10-09", 20, api.ErrRange)
}

func TestParseOfNoSecondNumberAndOfLastParts(t *testing.T) {
	for n := range 12 {
		for size := range 12 {
			if n < size {
				wantSpans(t, "bytes="+strconv.Itoa(n)+"-", size, n, size-1)
			} else {
				wantErrno(t, "bytes="+strconv.Itoa(n)+"-", size, api.ErrUnsat)
			}
			if n > 0 && size > 0 {
				wantSpans(t, "bytes=-"+strconv.Itoa(n), size, max(0, size-n), size-1)
			} else {
				wantErrno(t, "bytes=-"+strconv.Itoa(n), size, api.ErrUnsat)
			}
		}
	}
}

func TestParseKeepsTheSpansAndTheirOrder(t *testing.T) {
	wantSpans(t, "bytes=4-4,0-0", 5, 4, 4, 0, 0)
	wantSpans(t, "bytes=-1,0-0", 5, 4, 4, 0, 0)
	wantSpans(t, "bytes=0-3,1-2,2-9", 5, 0, 3, 1, 2, 2, 4)
	wantSpans(t, "bytes=0-0,1-1,2-2", 5, 0, 0, 1, 1, 2, 2)
	wantSpans(t, "bytes=1-2,1-2,1-2", 5, 1, 2, 1, 2, 1, 2)
	wantSpans(t, "bytes=-5,0-,0-4,-9", 5, 0, 4, 0, 4, 0, 4, 0, 4)
}

func TestParseOfElementsWithoutASpanBesideOthers(t *testing.T) {
	wantSpans(t, "bytes=5-,0-0", 5, 0, 0)
	wantSpans(t, "bytes=0-0,5-5", 5, 0, 0)
	wantSpans(t, "bytes=-0,3-,99-100,-2,5-", 5, 3, 4, 3, 4)
	for _, value := range []string{"5-", "5-5", "-0", "5-,6-,7-8", "-0,-00", "-0,5-"} {
		wantErrno(t, "bytes="+value, 5, api.ErrUnsat)
	}
}

// P19.2: Apply

func TestApplyOfTheChaptersExample(t *testing.T) {
	wantApplied(t, pairs("Range", "bytes=1-2"), whole(), "abcd", part("Content-Range", "bytes 1-2/4"), "bc")
}

// Another Status is left as it is, whatever else is asked.
func TestApplyOfEveryOtherStatus(t *testing.T) {
	asks := [][]api.Field{pairs("Range", "bytes=1-2"), pairs("Range", "bytes=9-"), pairs("Range", "bytes=0-0,-1"), pairs("Range", "bytes=1-2", "If-Range", "\"a\""), nil}
	for status := -700; status <= 1400; status++ {
		r := whole("Content-Type", "a/b", "content-length", "4", "ETag", "\"a\"", "CONTENT-TYPE", "c/d")
		r.Status, r.Reason, r.Minor = status, "Reason", status
		for _, ask := range asks {
			if status != 200 {
				wantAsItIs(t, ask, r, "abcd")
			}
		}
	}
	for _, status := range []int{math.MinInt, math.MaxInt, 200 << 32, 1<<32 + 200, 1<<8 + 200, -200} {
		wantAsItIs(t, asks[0], api.Response{Status: status, Reason: "\x00", Minor: math.MinInt, Fields: pairs("", "")}, "abcd")
	}
}

func TestApplyOfNoRange(t *testing.T) {
	r := whole("Content-Type", "a/b", "Content-Length", "4", "content-length", "4", "Content-Range", "x", "ETag", "\"a\"", "", "")
	for _, ask := range [][]api.Field{nil, {}, pairs("Rang", "bytes=1-2"), pairs("Ranges", "bytes=1-2", "X-Range", "bytes=1-2"), pairs("Range ", "bytes=1-2"), pairs("", "bytes=1-2"), pairs("If-Range", "\"a\""), pairs("If-Range", "bytes=1-2"), pairs("Content-Range", "bytes 1-2/4"), pairs("Request-Range", "bytes=1-2")} {
		wantAsItIs(t, ask, r, "abcd")
		wantAsItIs(t, ask, r, "")
		wantAsItIs(t, ask, api.Response{Status: 200}, "abcd")
	}
}

func TestApplyOfSeveralFieldsRange(t *testing.T) {
	r := whole("X", "y")
	wantApplied(t, pairs("Range", "bytes=1-2", "range", ""), r, "abcd", part("X", "y", "Content-Range", "bytes 1-2/4"), "bc")
	wantApplied(t, pairs("rANGE", "bytes=", "X", "bytes=0-", "RANGE", "1-2"), r, "abcd", part("X", "y", "Content-Range", "bytes 1-2/4"), "bc")
	wantApplied(t, pairs("Range", "bytes=9-", "Range", "-0"), r, "abcd", unsat("X", "y", "Content-Range", "bytes */4"), "")
	wantApplied(t, pairs("Range", "bytes=9-", "Range", "-1"), r, "abcd", part("X", "y", "Content-Range", "bytes 3-3/4"), "d")
	wantApplied(t, pairs("Range", "bytes=0-0", "Range", "2-2"), r, "abcd", part("X", "y", "Content-Type", "multipart/byteranges; boundary=conduit-0"), "\r\n--conduit-0\r\nContent-Range: bytes 0-0/4\r\n\r\na\r\n--conduit-0\r\nContent-Range: bytes 2-2/4\r\n\r\nc\r\n--conduit-0--\r\n")
	// Two whole ones aren't one: the second one's unit is no element.
	wantAsItIs(t, pairs("Range", "bytes=1-2", "Range", "bytes=1-2"), r, "abcd")
	wantAsItIs(t, pairs("Range", "", "Range", "bytes=1-2"), r, "abcd")
	wantAsItIs(t, pairs("Range", "1-2", "Range", "bytes="), r, "abcd")
}

func TestApplyOfARangeThatIsNone(t *testing.T) {
	r := whole("Content-Type", "a/b", "Content-Length", "4", "ETag", "\"a\"")
	for _, value := range []string{"", "x", "bytes", "bytes=", "bytes=,", "bytes=x", "bytes=-", "bytes=2-1", "bytes=0-,x", "bytes=9-,x", "bits=0-", " bytes=0-", "bytes=0-0,1-1,2-2,3-3,0-0,1-1,2-2,3-3,0-0", "bytes=0-1234567890123456789"} {
		wantAsItIs(t, pairs("Range", value), r, "abcd")
		wantAsItIs(t, pairs("Range", value), r, "")
		wantAsItIs(t, pairs("If-Range", "\"a\"", "Range", value), r, "abcd")
		wantAsItIs(t, pairs("If-Range", "\"b\"", "Range", value), r, "abcd")
	}
	// So many elements as may be, but no more, and numbers as long.
	wantApplied(t, pairs("Range", "bytes=9-,9-,9-,9-,9-,9-,9-,3-123456789012345678"), r, "abcd", part("Content-Type", "a/b", "ETag", "\"a\"", "Content-Range", "bytes 3-3/4"), "d")
}

// ifRange: a request for two bytes, if the response is that one.
func ifRange(values ...string) []api.Field {
	ask := pairs("Range", "bytes=1-2")
	for _, value := range values {
		ask = append(ask, api.Field{Name: "If-Range", Value: value})
	}
	return ask
}

func wantHeld(t *testing.T, ask []api.Field, holds bool, told ...string) {
	t.Helper()
	r := whole(told...)
	if holds {
		wantApplied(t, ask, r, "abcd", part(append(slices.Clone(told), "Content-Range", "bytes 1-2/4")...), "bc")
	} else {
		wantAsItIs(t, ask, r, "abcd")
	}
	// The other answers hang on it, too.
	for i, value := range []string{"bytes=4-", "bytes=0-0,0-0"} {
		other := slices.Clone(ask)
		for j, field := range other {
			if strings.EqualFold(field.Name, "Range") {
				other[j].Value = value
			}
		}
		want := 200
		if holds {
			want = []int{416, 206}[i]
		}
		if got, _ := ranges.Apply(other, r, []byte("abcd")); got.Status != want {
			t.Errorf("Apply(%q, %q) has the status %d; want %d", other, told, got.Status, want)
		}
	}
}

func TestApplyOfIfRangeByTheTag(t *testing.T) {
	for _, tag := range []string{"\"a\"", "\"\"", "\"a,b\"", "\"\xff\"", "\"\\\""} {
		wantHeld(t, ifRange(tag), true, "ETag", tag)
		wantHeld(t, append(pairs("if-RANGE", tag), pairs("RANGE", "bytes=1-2")...), true, "X", "y", "eTAG", tag, "Last-Modified", late)
		// A weak one holds nowhere, not even against itself.
		wantHeld(t, ifRange("W/"+tag), false, "ETag", tag)
		wantHeld(t, ifRange(tag), false, "ETag", "W/"+tag)
		wantHeld(t, ifRange("W/"+tag), false, "ETag", "W/"+tag)
		wantHeld(t, ifRange("\"A\""), false, "ETag", tag)
		wantHeld(t, ifRange("\"b\""), false, "ETag", tag)
		wantHeld(t, ifRange(tag), false, "ETag", "\"b\"")
		wantHeld(t, ifRange(tag), false)
		wantHeld(t, ifRange(tag), false, "Last-Modified", tag)
		wantHeld(t, ifRange(tag), false, "If-Range", tag, "If-None-Match", tag)
	}
	for _, other := range []string{"", "a", "*", "W/", "\"a", "a\"", "\"a\" ", " \"a\"", "\"a\", \"a\"", "\"a\",\"b\"", "\"b\", \"a\"", "\"a b\"", "w/\"a\""} {
		wantHeld(t, ifRange(other), false, "ETag", "\"a\"")
		wantHeld(t, ifRange("\"a\""), false, "ETag", other)
		// Texts that are no tags aren't the same, even when they are.
		wantHeld(t, ifRange(other), false, "ETag", other)
	}
}

func TestApplyOfIfRangeByTheDate(t *testing.T) {
	forms := []string{"Sun, 06 Nov 1994 08:49:37 GMT", "Sunday, 06-Nov-94 08:49:37 GMT", "Sun Nov  6 08:49:37 1994"}
	for i, one := range forms {
		for j, other := range forms {
			// The same second, but byte for byte it must be.
			wantHeld(t, ifRange(one), i == j, "Last-Modified", other)
			wantHeld(t, ifRange(one), i == j, "ETag", "\"a\"", "last-MODIFIED", other)
			wantHeld(t, ifRange(one), false, "ETag", other)
			wantHeld(t, ifRange(one), false, "Date", other, "If-Range", other)
		}
		wantHeld(t, ifRange("\"a\""), true, "ETag", "\"a\"", "Last-Modified", one)
		wantHeld(t, ifRange(late), false, "Last-Modified", one)
		wantHeld(t, ifRange(one), false, "Last-Modified", late)
		wantHeld(t, ifRange(one), false)
		wantHeld(t, ifRange(one+" "), false, "Last-Modified", one)
		wantHeld(t, ifRange(one), false, "Last-Modified", " "+one)
		wantHeld(t, ifRange(strings.ToLower(one)), false, "Last-Modified", one)
	}
	// An earlier one isn't it, and a later one isn't it either.
	wantHeld(t, ifRange(early), false, "Last-Modified", late)
	wantHeld(t, ifRange(late), false, "Last-Modified", early)
	for _, text := range []string{"", "0", "x", "*", "W/\"a\"", "Mon, 06 Nov 1994 08:49:37 GMT", "Wed, 31 Dec 1969 23:59:59 GMT", "Sun, 06 Nov 1994 08:49:37", "sun, 06 nov 1994 08:49:37 gmt", late + ", " + late, late + " ", "\x00"} {
		wantHeld(t, ifRange(text), false, "Last-Modified", text)
		wantHeld(t, ifRange(text), false, "ETag", "\"a\"", "Last-Modified", text)
		wantHeld(t, ifRange(text), false, "Last-Modified", late)
		wantHeld(t, ifRange(text), false)
	}
	// Quotes around a date make it a text that is no date and, for its blanks, no tag.
	wantHeld(t, ifRange("\""+late+"\""), false, "Last-Modified", late, "ETag", "\""+late+"\"")
}

func TestApplyOfFieldsThatStandTwiceInIfRange(t *testing.T) {
	wantHeld(t, ifRange("\"a\"", "\"a\""), false, "ETag", "\"a\"")
	wantHeld(t, ifRange("\"a\"", ""), false, "ETag", "\"a\"")
	wantHeld(t, ifRange("", "\"a\""), false, "ETag", "\"a\"")
	wantHeld(t, ifRange("\"a\""), false, "ETag", "\"a\"", "etag", "\"a\"")
	wantHeld(t, ifRange("\"a\"", "\"b\""), false, "ETag", "\"a\"", "etag", "\"b\"")
	wantHeld(t, ifRange(late, late), false, "Last-Modified", late)
	wantHeld(t, ifRange(late), false, "Last-Modified", late, "last-modified", late)
	wantHeld(t, ifRange(late, late), false, "Last-Modified", late, "last-modified", late)
	// Values are joined by a comma and a blank, which may make a date of two of them.
	wantHeld(t, ifRange("Thu", "01 Jan 1970 00:16:40 GMT"), true, "Last-Modified", late)
	wantHeld(t, ifRange(late), true, "Last-Modified", "Thu", "X", "y", "LAST-modified", "01 Jan 1970 00:16:40 GMT")
	wantHeld(t, ifRange("01 Jan 1970 00:16:40 GMT", "Thu"), false, "Last-Modified", late)
	wantHeld(t, ifRange(""), false)
	wantHeld(t, ifRange("", ""), false)
	wantHeld(t, ifRange(""), false, "ETag", "", "Last-Modified", "")
	wantHeld(t, ifRange(), true)
}

func TestApplyWhereNoByteIsThere(t *testing.T) {
	for _, value := range []string{"bytes=4-", "bytes=4-9", "bytes=-0", "bytes=9-,-0,5-6"} {
		wantApplied(t, pairs("Range", value), whole(), "abcd", unsat("Content-Range", "bytes */4"), "")
		wantApplied(t, pairs("Range", value), whole("A", "b", "Content-Type", "a/b", "ETag", "\"a\"", "Content-Length", "4", "a", "c"), "abcd", unsat("A", "b", "ETag", "\"a\"", "a", "c", "Content-Range", "bytes */4"), "")
		wantApplied(t, pairs("Range", value), whole("content-TYPE", "a/b", "CONTENT-length", "4", "content-range", "x", "Content-Type", "", "content-length", "", "CONTENT-RANGE", "y", "Content", "z", "Content-Types", "z"), "abcd", unsat("Content", "z", "Content-Types", "z", "Content-Range", "bytes */4"), "")
	}
	for _, length := range []int{0, 1, 9, 10, 65535, 100000} {
		wantApplied(t, pairs("Range", "bytes="+strconv.Itoa(length)+"-"), whole("X", "y"), strings.Repeat("a", length), unsat("X", "y", "Content-Range", "bytes */"+strconv.Itoa(length)), "")
	}
	for _, minor := range []int{0, 1, 2, -1, math.MaxInt} {
		r, want := whole(), unsat("Content-Range", "bytes */4")
		r.Minor, want.Minor = minor, minor
		wantApplied(t, pairs("Range", "bytes=4-"), r, "abcd", want, "")
	}
}

func TestApplyOfABodyWithoutAByte(t *testing.T) {
	for _, value := range []string{"bytes=0-", "bytes=0-0", "bytes=-1", "bytes=-0", "bytes=5-,-5"} {
		for _, body := range [][]byte{nil, {}} {
			got, rest := ranges.Apply(pairs("Range", value), whole("Content-Type", "a/b", "Content-Length", "0"), body)
			if want := unsat("Content-Range", "bytes */0"); !sameResponse(got, want) || len(rest) != 0 {
				t.Errorf("Apply of %q and no body = %s; want %s", value, shown(got, rest), shown(want, nil))
			}
		}
	}
	wantAsItIs(t, nil, whole("Content-Length", "0"), "")
	wantAsItIs(t, pairs("Range", "bytes=2-1"), whole("Content-Length", "0"), "")
	wantAsItIs(t, ifRange("\"a\""), whole("Content-Length", "0"), "")
}

func TestApplyOfOneSpan(t *testing.T) {
	for _, test := range []struct{ value, place, want string }{
		{"0-0", "0-0", "a"}, {"0-", "0-3", "abcd"}, {"0-3", "0-3", "abcd"}, {"0-99", "0-3", "abcd"}, {"3-", "3-3", "d"}, {"3-3", "3-3", "d"}, {"1-2", "1-2", "bc"}, {"-1", "3-3", "d"}, {"-3", "1-3", "bcd"}, {"-4", "0-3", "abcd"}, {"-99", "0-3", "abcd"}, {"001-002", "1-2", "bc"}, {"9-,1-1,-0", "1-1", "b"},
	} {
		place := "bytes " + test.place + "/4"
		ask := pairs("Range", "bytes="+test.value)
		wantApplied(t, ask, whole(), "abcd", part("Content-Range", place), test.want)
		// The Content-Type stays where it is, and the Content-Range goes to the end.
		wantApplied(t, ask, whole("A", "b", "Content-Range", "x", "Content-Type", "a/b", "Content-Length", "4", "a", "c"), "abcd", part("A", "b", "Content-Type", "a/b", "a", "c", "Content-Range", place), test.want)
		wantApplied(t, ask, whole("content-LENGTH", "", "CONTENT-range", "x", "content-type", "a/b", "Content-Length", "9", "Content-Lengths", "5", "Content-Type", "c/d", "content-range", ""), "abcd", part("content-type", "a/b", "Content-Lengths", "5", "Content-Type", "c/d", "Content-Range", place), test.want)
	}
	all := make([]byte, 256)
	for i := range all {
		all[i] = byte(i)
	}
	for first := range 256 {
		last := min(first+first%7, 255)
		value := strconv.Itoa(first) + "-" + strconv.Itoa(last)
		wantApplied(t, pairs("Range", "bytes="+value), whole("X", "y"), string(all), part("X", "y", "Content-Range", "bytes "+value+"/256"), string(all[first:last+1]))
	}
}

// The rest of a response stays as it was.
func TestApplyLeavesTheRest(t *testing.T) {
	for _, minor := range []int{0, 1, 2, -1, math.MaxInt} {
		for _, reason := range []string{"OK", "", "Found it", "\x00"} {
			r := api.Response{Status: 200, Reason: reason, Minor: minor, Fields: pairs("a b", "\x00", "", "", "Age", "5", "age", "6", "Date", late)}
			wantAsItIs(t, nil, r, "abcd")
			one := api.Response{Status: 206, Reason: "Partial Content", Minor: minor, Fields: append(slices.Clone(r.Fields), pairs("Content-Range", "bytes 1-2/4")...)}
			wantApplied(t, pairs("Range", "bytes=1-2"), r, "abcd", one, "bc")
			more := one
			more.Fields = append(slices.Clone(r.Fields), pairs("Content-Type", "multipart/byteranges; boundary=conduit-0")...)
			wantApplied(t, pairs("Range", "bytes=-1,0-0"), r, "abcd", more, "\r\n--conduit-0\r\nContent-Range: bytes 3-3/4\r\n\r\nd\r\n--conduit-0\r\nContent-Range: bytes 0-0/4\r\n\r\na\r\n--conduit-0--\r\n")
		}
	}
}

// several: the body of several parts, with lines that stand in each part, ahead of its place.
func several(boundary, lines, body string, list ...int) string {
	text := ""
	for _, span := range spans(list...) {
		text += fmt.Sprintf("\r\n--%s\r\n%sContent-Range: bytes %d-%d/%d\r\n\r\n%s", boundary, lines, span.First, span.Last, len(body), body[span.First:span.Last+1])
	}
	return text + "\r\n--" + boundary + "--\r\n"
}

func TestApplyOfMoreSpans(t *testing.T) {
	kind := "multipart/byteranges; boundary=conduit-0"
	for value, list := range map[string][]int{
		"0-0,-1": {0, 0, 3, 3}, "-1,0-0": {3, 3, 0, 0}, "0-,0-": {0, 3, 0, 3}, "0-2,1-3,2-2": {0, 2, 1, 3, 2, 2}, "9-,1-2,-0,-2,0-99": {1, 2, 2, 3, 0, 3}, "0-0,1-1,2-2,3-3,0-0,1-1,2-2,3-3": {0, 0, 1, 1, 2, 2, 3, 3, 0, 0, 1, 1, 2, 2, 3, 3},
	} {
		ask := pairs("Range", "bytes="+value)
		wantApplied(t, ask, whole(), "abcd", part("Content-Type", kind), several("conduit-0", "", "abcd", list...))
		wantApplied(t, ask, whole("Content-Type", "a/b", "A", "b", "Content-Length", "4"), "abcd", part("A", "b", "Content-Type", kind), several("conduit-0", "Content-Type: a/b\r\n", "abcd", list...))
		wantApplied(t, ask, whole("A", "b", "Content-Range", "x", "Content-Length", "4", "a", "c"), "abcd", part("A", "b", "a", "c", "Content-Type", kind), several("conduit-0", "", "abcd", list...))
		// An empty Content-Type is one, too; those that stand several times are joined.
		wantApplied(t, ask, whole("content-type", ""), "abcd", part("Content-Type", kind), several("conduit-0", "Content-Type: \r\n", "abcd", list...))
		wantApplied(t, ask, whole("content-TYPE", "a/b; c=d", "CONTENT-length", "x", "content-range", "y", "A", "b", "Content-Type", "e/f", "content-LENGTH", "", "Content-Range", "", "Content-Types", "z", "CONTENT-TYPE", ""), "abcd", part("A", "b", "Content-Types", "z", "Content-Type", kind), several("conduit-0", "Content-Type: a/b; c=d, e/f, \r\n", "abcd", list...))
	}
	wantApplied(t, pairs("Range", "bytes=0-1,-1"), whole("Content-Type", "\x00\r\n"), "\r\n", part("Content-Type", kind), several("conduit-0", "Content-Type: \x00\r\n\r\n", "\r\n", 0, 1, 1, 1))
}

// wantBoundary: the boundary's number, where several spans of that body are asked for.
func wantBoundary(t *testing.T, body string, number int) {
	t.Helper()
	boundary := "conduit-" + strconv.Itoa(number)
	wantApplied(t, pairs("Range", "bytes=0-0,-2"), whole("Content-Type", "a/b"), body, part("Content-Type", "multipart/byteranges; boundary="+boundary), several(boundary, "Content-Type: a/b\r\n", body, 0, 0, len(body)-2, len(body)-1))
}

func TestApplyOfBodiesWithBoundariesInThem(t *testing.T) {
	for body, number := range map[string]int{
		"--conduit-0":                            1,
		"x--conduit-0y":                          1,
		"\r\n--conduit-0\r\n":                    1,
		"---conduit-0":                           1,
		"--conduit-1":                            0,
		"--conduit-0--conduit-1":                 2,
		"--conduit-1 --conduit-0":                2,
		"--conduit-0--conduit-2":                 1,
		"--conduit-0--conduit-0--conduit-0":      1,
		"--conduit-2--conduit-1--conduit-0":      3,
		"--conduit-2--conduit-0--conduit-1--":    3,
		"--conduit-0--conduit-1--conduit-2":      3,
		"--conduit-0 --conduit-1 --conduit-2 --": 3,
	} {
		wantBoundary(t, body, number)
	}
}

func TestApplyOfBodiesWithPartsOfABoundaryInThem(t *testing.T) {
	for _, body := range []string{
		"--conduit-", "--conduit", "-conduit-0", "conduit-0", "--conduit0", "--conduit -0", "--conduit-x0", "--Conduit-0", "--CONDUIT-0", "--conduit--0", "--conduit-\r\n0", "--conduit-\x000", "--conduit-:", "--conduit-/", "--conduit-a", "- -conduit-0", "-\r\n-conduit-0", "\u2013\u2013conduit-0", "--conduit-\u0660", "--conduit-\xb0", "--conduit-1--conduit-2", "--conduit-9999999999999999999999999999", "--conduit---", "--conduit--conduit-",
	} {
		wantBoundary(t, body, 0)
	}
	for i := range len("--conduit-0") {
		wantBoundary(t, "--conduit-0"[:i]+"##", 0)
		wantBoundary(t, "##"+"--conduit-0"[i+1:], 0)
		if i > 0 {
			wantBoundary(t, "--conduit-0"[:i]+"#"+"--conduit-0"[i:], 0)
		}
	}
}

// A number that begins a longer one occurs as well; digits behind a nought tell no number of their own.
func TestApplyOfBodiesWithLongerNumbersInThem(t *testing.T) {
	for body, number := range map[string]int{
		"--conduit-10":                       0,
		"--conduit-00":                       1,
		"--conduit-01":                       1,
		"--conduit-012":                      1,
		"--conduit-0--conduit-10":            2,
		"--conduit-0--conduit-12":            2,
		"--conduit-0--conduit-1--conduit-20": 3,
		"--conduit-0--conduit-2345":          1,
		"--conduit-0x1--conduit-19999999999999999999999999": 2,
		"--conduit-0--conduit-18446744073709551617":         2,
		"--conduit-0--conduit-99999999999999999999":         1,
		// Numbers that would be 0 or 1 in 64 bits.
		"--conduit-18446744073709551616":                              0,
		"--conduit-0--conduit-36893488147419103233":                   1,
		"--conduit-0--conduit-2--conduit-3--conduit-4294967297":       1,
		"--conduit-0--conduit-2--conduit-340282366920938463463374607": 1,
	} {
		wantBoundary(t, body, number)
	}
}

// The last byte of what may be a boundary's beginning may be the first one of another.
func TestApplyOfBodiesWithBoundariesIntoOneAnother(t *testing.T) {
	for body, number := range map[string]int{
		"--conduit--conduit-0":                     1,
		"--conduit--conduit--conduit-0":            1,
		"--conduit--conduit-0--conduit--conduit-1": 2,
		"---conduit--conduit-0":                    1,
		"--conduit---conduit-0":                    1,
		"----conduit----conduit-0":                 1,
		"--condui--conduit-0":                      1,
		"--conduit-0--conduit--conduit-1-":         2,
		"--conduit-conduit-0":                      0,
	} {
		wantBoundary(t, body, number)
	}
}

// boundaries: each boundary from 0 up to ahead of n, with a text behind it.
func boundaries(n int, behind string) string {
	var b strings.Builder
	for i := range n {
		b.WriteString("--conduit-" + strconv.Itoa(i) + behind)
	}
	return b.String()
}

func TestApplyOfManyBoundaries(t *testing.T) {
	for n := 1; n <= 300; n++ {
		wantBoundary(t, boundaries(n, ""), n)
		wantBoundary(t, boundaries(n, "."), n)
		// One of them is left out: then it is the least one, unless a longer one begins with it.
		for _, out := range []int{0, n / 2, n - 1} {
			name := "--conduit-" + strconv.Itoa(out) + "."
			want := out
			if 0 < out && out*10 < n {
				want = n
			}
			wantBoundary(t, strings.Replace(boundaries(n, "."), name, "##", 1), want)
		}
	}
	// What begins a longer number needn't stand by itself.
	var tens strings.Builder
	tens.WriteString("--conduit-0")
	for i := 10; i < 100; i++ {
		tens.WriteString("--conduit-" + strconv.Itoa(i))
	}
	wantBoundary(t, tens.String(), 100)
}

// The boundary mustn't occur in the whole body, also where no span is.
func TestApplyLooksForTheBoundaryInTheWholeBody(t *testing.T) {
	body := "ab--conduit-0cd"
	for _, value := range []string{"0-0,1-1", "0-0,-1", "-1,-2", "2-5,6-9", "2-11,12-12"} {
		list, errno := ranges.Parse("bytes="+value, len(body))
		var ends []int
		for _, span := range list {
			ends = append(ends, span.First, span.Last)
		}
		if errno != api.OK || len(list) != 2 {
			t.Fatalf("%q: %v, %d", value, list, errno)
		}
		wantApplied(t, pairs("Range", "bytes="+value), whole(), body, part("Content-Type", "multipart/byteranges; boundary=conduit-1"), several("conduit-1", "", body, ends...))
	}
	// In the fields it may.
	wantApplied(t, pairs("Range", "bytes=0-0,-1"), whole("Content-Type", "--conduit-0", "--conduit-0", "--conduit-0"), "abcd", part("--conduit-0", "--conduit-0", "Content-Type", "multipart/byteranges; boundary=conduit-0"), several("conduit-0", "Content-Type: --conduit-0\r\n", "abcd", 0, 0, 3, 3))
	// Two parts one behind the other don't make one either, as there is always a line between.
	wantApplied(t, pairs("Range", "bytes=1-1,0-0"), whole(), "0--conduit-", part("Content-Type", "multipart/byteranges; boundary=conduit-0"), several("conduit-0", "", "0--conduit-", 1, 1, 0, 0))
}

// P1 and P2: calls end, and answer the same for the same

func TestLongArguments(t *testing.T) {
	const count = 1000000
	wantErrno(t, "bytes="+strings.Repeat("0-,", count), 5, api.ErrRange)
	wantErrno(t, "bytes="+strings.Repeat("0", count)+"-", 5, api.ErrRange)
	wantErrno(t, "bytes=-"+strings.Repeat("9", count), 5, api.ErrRange)
	wantErrno(t, "bytes="+strings.Repeat("-", count), 5, api.ErrRange)
	wantErrno(t, strings.Repeat("bytes=", count), 5, api.ErrRange)
	wantSpans(t, "bytes="+strings.Repeat(", ,", count)+"0-"+strings.Repeat(",", count), 5, 0, 4)

	body := strings.Repeat("abcdefghij", count)
	wantApplied(t, pairs("Range", "bytes=0-9999998"), whole("X", "y"), body, part("X", "y", "Content-Range", "bytes 0-9999998/10000000"), body[:len(body)-1])
	wantApplied(t, pairs("Range", "bytes=-9999999,0-"), whole("X", "y"), body, part("X", "y", "Content-Type", "multipart/byteranges; boundary=conduit-0"), several("conduit-0", "", body, 1, 9999999, 0, 9999999))
	wantAsItIs(t, pairs("Range", "bytes=0-", "If-Range", body), whole("ETag", body, "Last-Modified", body), body)

	// Many boundaries, marks and dashes are gone through once.
	wantBoundary(t, boundaries(count, ""), count)
	wantBoundary(t, boundaries(count, "."), count)
	wantBoundary(t, strings.Repeat("--conduit-0", count), 1)
	wantBoundary(t, strings.Repeat("--conduit-", count), 0)
	wantBoundary(t, strings.Repeat("--conduit-1", count), 0)
	wantBoundary(t, strings.Repeat("-", count)+"conduit-0", 1)
	wantBoundary(t, "--conduit-"+strings.Repeat("1", count)+"--conduit-0", 2)
	wantBoundary(t, "--conduit-"+strings.Repeat("0", count), 1)

	many := slices.Repeat(pairs("X", "y", "Content-Length", "1", "content-type", "", "Content-Range", "z"), 10000)
	left := slices.Repeat([]string{"X", "y"}, 10000)
	wantApplied(t, append(slices.Repeat(pairs("X", "y"), 10000), pairs("Range", "bytes=4-")...), api.Response{Status: 200, Minor: 1, Fields: many}, "abcd", unsat(append(left, "Content-Range", "bytes */4")...), "")
}

func TestCallsAnswerTheSameTwice(t *testing.T) {
	r := whole("ETag", "\"a\"", "Content-Type", "a/b")
	body := []byte("--conduit-0")
	for range 3 {
		wantSpans(t, "bytes=0-1, -1, 9-", 5, 0, 1, 4, 4)
		wantErrno(t, "bytes=9-", 5, api.ErrUnsat)
		wantErrno(t, "bytes=x", 5, api.ErrRange)
		wantBoundary(t, string(body), 1)
		wantBoundary(t, "abcd", 0)
		wantHeld(t, ifRange("\"a\""), true, "ETag", "\"a\"")
		wantHeld(t, ifRange("\"b\""), false, "ETag", "\"a\"")
		one, first := ranges.Apply(pairs("Range", "bytes=0-,-1"), r, body)
		two, second := ranges.Apply(pairs("Range", "bytes=0-,-1"), r, body)
		if !sameResponse(one, two) || !bytes.Equal(first, second) {
			t.Errorf("two answers differ: %s; %s", shown(one, first), shown(two, second))
		}
	}
}
