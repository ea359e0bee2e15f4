package inbox_test

import (
	"bytes"
	"errors"
	"math"
	"reflect"
	"slices"
	"strconv"
	"strings"
	"testing"

	"conduit/api"
	"conduit/chunk"
	"conduit/inbox"
)

// Reading functions of several kinds of things

type reading[T any] func(b []byte) (T, int, api.Errno)

func responsesTo(method string) reading[api.Message] {
	return func(b []byte) (api.Message, int, api.Errno) { return inbox.Response(b, method, false) }
}

// line: a text up to a 10, which isn't told; ErrToken where a 0 stands in it.
func line(b []byte) (string, int, api.Errno) {
	text, _, found := strings.Cut(string(b), "\n")
	if strings.Contains(text, "\x00") {
		return "refused", 7, api.ErrToken
	}
	if !found {
		return "half", 0, api.OK
	}
	return text, len(text) + 1, api.OK
}

// sized: as many bytes as the first one says, where they were handed.
func sized(b []byte) ([]byte, int, api.Errno) {
	if len(b) == 0 || len(b) <= int(b[0]) {
		return nil, -1, api.OK
	}
	end := 1 + int(b[0])
	return b[1:end], end, api.OK
}

// number: two digits.
func number(b []byte) (int, int, api.Errno) {
	if len(b) < 2 {
		return 77, 0, api.OK
	}
	n, err := strconv.Atoi(string(b[:2]))
	if err != nil {
		return 77, 2, api.ErrRule
	}
	return n, 2, api.OK
}

// mark: a byte, as a thing that has no bytes.
func mark(b []byte) (struct{}, int, api.Errno) { return struct{}{}, min(1, len(b)), api.OK }

type decoded struct {
	Data     []byte
	Trailers []api.Field
}

// pointed: a chunked body, behind a pointer.
func pointed(b []byte) (*decoded, int, api.Errno) {
	data, list, n, e := chunk.Decode(b)
	return &decoded{data, list}, n, e
}

// anything: a byte as an error, a text or nil.
func anything(b []byte) (any, int, api.Errno) {
	switch {
	case len(b) == 0:
		return "nothing", 0, api.OK
	case b[0] == 'e':
		return api.ErrBody, 1, api.OK
	case b[0] == 'n':
		return nil, 1, api.OK
	}
	return string(b[:1]), 1, api.OK
}

// readAll: the things that stand behind one another in a text, what is left of it, and the error.
func readAll[T any](read reading[T], s string) ([]T, string, api.Errno) {
	var all []T
	for {
		value, n, e := read([]byte(s))
		if e != api.OK || n <= 0 {
			return all, s, e
		}
		all = append(all, value)
		s = s[n:]
	}
}

// inPieces: a text in pieces of a size, the last one perhaps shorter.
func inPieces(s string, size int) []string {
	var pieces []string
	for part := range slices.Chunk([]byte(s), size) {
		pieces = append(pieces, string(part))
	}
	return pieces
}

// wantInPieces: a text in pieces is read as the whole is, asked for things at each piece or at the end.
func wantInPieces[T any](t *testing.T, read reading[T], s string, pieces []string) {
	t.Helper()
	want, rest, errno := readAll(read, s)
	taken := len(s) - len(rest)
	for _, atEach := range []bool{true, false} {
		var all []T
		var last api.Errno
		x := inbox.New(read)
		fed, kept := 0, 0
		for i, piece := range pieces {
			x.Feed([]byte(piece))
			fed += len(piece)
			if last == api.OK {
				kept = fed
			}
			for ok := atEach || i == len(pieces)-1; ok; {
				var value T
				value, ok, last = x.Next()
				if ok {
					all = append(all, value)
				} else if !reflect.ValueOf(&value).Elem().IsZero() {
					t.Errorf("%s in %d pieces: %+v beside false", short(s), len(pieces), value)
				}
			}
		}
		if !reflect.DeepEqual(all, want) || last != errno {
			t.Errorf("%s in pieces %.200q: %+v, %d; want %+v, %d", short(s), pieces, all, last, want, errno)
		}
		if got := string(x.Rest()); got != s[taken:kept] {
			t.Errorf("%s in pieces %.200q: the rest %s", short(s), pieces, short(got))
		}
	}
}

// wantInAnyPieces: likewise in pieces of each size, and cut at any one place and at any two, with empty pieces between.
func wantInAnyPieces[T any](t *testing.T, read reading[T], s string) {
	t.Helper()
	for size := 1; size <= len(s)+1; size += 1 + size/10 {
		wantInPieces(t, read, s, inPieces(s, size))
	}
	step := 1 + len(s)/60
	for i := 0; i <= len(s); i += step {
		wantInPieces(t, read, s, []string{s[:i], "", s[i:]})
		for j := i; j <= len(s); j += step {
			wantInPieces(t, read, s, []string{s[:i], s[i:j], s[j:]})
		}
	}
}

func TestPiecesOfRequests(t *testing.T) {
	sized, _ := asked("Content-Length", "2")
	coded, _ := asked("Transfer-Encoding", "chunked")
	plain := "GET / HTTP/1.0\r\n\r\n"
	for _, s := range []string{
		plain, plain + plain, plain + "\r\n\r\n" + plain + "rest", sized + "xy" + sized + "ab" + plain + sized + "x", coded + "1\r\na\r\n0\r\n\r\n" + coded + "0\r\nA: b\r\n\r\n" + plain, "\r\n" + coded + "3;x\r\nabc\r\n0\r\nA: b\r\n",
		plain + "x\r\n\r\n" + plain, sized + "xyx\r\n\r\nmore", coded + "x\r\n" + plain, plain + "P / HTTP/1.0\r\nContent-Length: x\r\n\r\nabc",
	} {
		wantInAnyPieces(t, inbox.Request, s)
	}
}

func TestPiecesOfResponses(t *testing.T) {
	sized, _ := answered(200, "Content-Length", "2")
	coded, _ := answered(200, "Transfer-Encoding", "chunked")
	early, _ := answered(100)
	for _, s := range []string{sized + "xy" + sized + "ab", early + early + coded + "1\r\na\r\n0\r\nA: b\r\n\r\n" + sized, coded + "0\r\n\r\nx\r\n\r\n" + sized, "HTTP/1.0 200\r\n\r\nabc", early + "HTTP/1.1 200 OK\r\n\r\n", sized + "xyHTTP/1.1 600\r\n\r\n"} {
		for _, method := range []string{"GET", "HEAD", "CONNECT"} {
			wantInAnyPieces(t, responsesTo(method), s)
		}
	}
}

func TestPiecesOfOtherThings(t *testing.T) {
	for _, s := range []string{"", "\n", "a\nbc\n\nd", "a\nb\x00c\nd\n", "\x00", strings.Repeat("ab\n", 30) + "c"} {
		wantInAnyPieces(t, line, s)
	}
	for _, s := range []string{"", "\x00", "\x01a\x02bc\x00\x03d", strings.Repeat("\x05abcde\x00", 10), "\xff" + strings.Repeat("y", 255) + "\xff"} {
		wantInAnyPieces(t, sized, s)
	}
	for _, s := range []string{"", "1", "12", "123", "0102030405", "12xx34", "x", "12-3+4++56", "xx"} {
		wantInAnyPieces(t, number, s)
		wantInAnyPieces(t, mark, s)
	}
	for _, s := range []string{"1\r\na\r\n0\r\n\r\n", "1\r\na\r\n0\r\n\r\n0\r\nA: b\r\n\r\n3\r\nab", "0\r\n\r\nx\r\n0\r\n\r\n"} {
		wantInAnyPieces(t, pointed, s)
	}
	wantInAnyPieces(t, anything, "abeennxen")
	for _, s := range everyText(5, "1", "0", "x", "\n") {
		for size := range 6 {
			wantInPieces(t, number, s, inPieces(s, size+1))
			wantInPieces(t, line, s, inPieces(s, size+1))
		}
	}
}

func TestPiecesOfLongMessages(t *testing.T) {
	body := strings.Repeat("0123456789\r\n", bodyCap/12)
	text, _ := asked("Content-Length", strconv.Itoa(len(body)))
	coded, _ := asked("Transfer-Encoding", "chunked")
	long := text + body + coded + "8000\r\n" + strings.Repeat("x", 0x8000) + "\r\n0\r\nA: b\r\n\r\n" + text + body[1:]
	for _, size := range []int{777, 4096, 8192, bodyCap, 100000, len(long)} {
		wantInPieces(t, inbox.Request, long, inPieces(long, size))
	}
	closed := "HTTP/1.1 200 OK\r\n\r\n" + strings.Repeat("z", bodyCap)
	for _, s := range []string{closed, closed + "z", closed + closed, strings.Repeat("a", headCap-1), strings.Repeat("a", headCap), strings.Repeat("a", 3*headCap)} {
		for _, size := range []int{777, 4096, bodyCap, len(s)} {
			wantInPieces(t, responsesTo("GET"), s, inPieces(s, size))
			wantInPieces(t, inbox.Request, s, inPieces(s, size))
		}
	}
}

// P8.4: Box

func wantRest[T any](t *testing.T, x *inbox.Box[T], want string) {
	t.Helper()
	if got := x.Rest(); string(got) != want {
		t.Errorf("Rest() = %s; want %s", short(string(got)), short(want))
	}
}

func wantNext[T comparable](t *testing.T, x *inbox.Box[T], want T, found bool, errno api.Errno) {
	t.Helper()
	if value, ok, e := x.Next(); value != want || ok != found || e != errno {
		t.Errorf("Next() = %v, %v, %d; want %v, %v, %d", value, ok, e, want, found, errno)
	}
}

func TestEmptyBoxes(t *testing.T) {
	asked := inbox.New(inbox.Request)
	texts := inbox.New(line)
	if asked == nil || texts == nil {
		t.Fatal("no box")
	}
	for range 3 {
		wantRest(t, asked, "")
		wantRest(t, texts, "")
		if m, ok, e := asked.Next(); !same(m, api.Message{}) || ok || e != api.OK {
			t.Errorf("Next() of an empty box = %s, %v, %d", told(m), ok, e)
		}
		wantNext(t, texts, "", false, api.OK)
		asked.Feed(nil)
		asked.Feed([]byte{})
		texts.Feed([]byte("abc\n")[:0])
	}
}

func TestOneByOne(t *testing.T) {
	x := inbox.New(line)
	for i, c := range []byte("abc\n\nd") {
		x.Feed([]byte{c})
		switch i {
		case 3:
			wantNext(t, x, "abc", true, api.OK)
			wantRest(t, x, "")
		case 4:
			wantNext(t, x, "", true, api.OK)
		default:
			wantNext(t, x, "", false, api.OK)
		}
	}
	wantRest(t, x, "d")
}

func TestSeveralInOneFeed(t *testing.T) {
	x := inbox.New(line)
	x.Feed([]byte("a\nbc\n\nd"))
	for _, s := range []struct{ thing, rest string }{{"a", "bc\n\nd"}, {"bc", "\nd"}, {"", "d"}} {
		wantNext(t, x, s.thing, true, api.OK)
		wantRest(t, x, s.rest)
	}
	for range 3 {
		wantNext(t, x, "", false, api.OK)
		wantRest(t, x, "d")
	}
	x.Feed([]byte("e\n"))
	x.Feed([]byte("f"))
	wantRest(t, x, "de\nf")
	wantNext(t, x, "de", true, api.OK)
	wantRest(t, x, "f")
}

// answer is what a reading function answers.
type answer struct {
	value  string
	length int
	errno  api.Errno
}

// byOrder: a box whose reading function gives the answers in order, and the texts that it was handed.
func byOrder(answers ...answer) (*inbox.Box[string], *[]string) {
	var handed []string
	return inbox.New(func(b []byte) (string, int, api.Errno) {
		a := answers[len(handed)%len(answers)]
		handed = append(handed, string(b))
		return a.value, a.length, a.errno
	}), &handed
}

func TestLengthsThatAreRead(t *testing.T) {
	for _, s := range []string{"", "a", "ab", "abcdefgh", strings.Repeat("x", 100000)} {
		for _, n := range []int{0, -1, -2, -len(s), math.MinInt64, math.MinInt64 + 1, -1 << 32, math.MinInt32} {
			x, handed := byOrder(answer{"v", n, api.OK})
			x.Feed([]byte(s))
			for range 3 {
				wantNext(t, x, "", false, api.OK)
				wantRest(t, x, s)
			}
			// There is nothing yet, but there may be later.
			x.Feed([]byte("more"))
			wantNext(t, x, "", false, api.OK)
			wantRest(t, x, s+"more")
			if !slices.Equal(*handed, []string{s, s, s, s + "more"}) {
				t.Errorf("%s, %d: handed %.100q", short(s), n, *handed)
			}
		}
		for _, n := range []int{1, 2, 3, max(1, len(s)-1), max(1, len(s)), len(s) + 1, len(s) + 2, 1 << 32, 1<<32 + 1, math.MaxInt32, math.MaxInt64} {
			x, handed := byOrder(answer{"v", n, api.OK}, answer{"", 1, api.OK}, answer{"w", 0, api.OK})
			x.Feed([]byte(s))
			left := s[min(n, len(s)):]
			wantNext(t, x, "v", true, api.OK)
			wantRest(t, x, left)
			wantNext(t, x, "", true, api.OK)
			rest := left[min(1, len(left)):]
			wantRest(t, x, rest)
			wantNext(t, x, "", false, api.OK)
			x.Feed([]byte("more"))
			wantRest(t, x, rest+"more")
			if !slices.Equal(*handed, []string{s, left, rest}) {
				t.Errorf("%s, %d: handed %.100q", short(s), n, *handed)
			}
		}
	}
}

func TestErrorsThatAreRead(t *testing.T) {
	for _, errno := range []api.Errno{api.ErrToken, api.ErrLine, api.ErrCut, api.ErrScript, 1, -1, math.MaxInt64, math.MinInt64, 1 << 32} {
		for _, n := range []int{0, 1, 2, 100, -1, math.MaxInt64, math.MinInt64} {
			x, handed := byOrder(answer{"v", 1, api.OK}, answer{"w", n, errno}, answer{"u", 1, api.OK})
			x.Feed([]byte("abc"))
			wantNext(t, x, "v", true, api.OK)
			for range 3 {
				// The error stays, and nothing is put in behind it.
				wantNext(t, x, "", false, errno)
				wantRest(t, x, "bc")
				x.Feed([]byte("more"))
				x.Feed(nil)
				wantRest(t, x, "bc")
			}
			if !slices.Equal(*handed, []string{"abc", "bc"}) {
				t.Errorf("%d, %d: handed %q", errno, n, *handed)
			}
		}
	}
	x, handed := byOrder(answer{"v", 1, api.ErrBody})
	wantNext(t, x, "", false, api.ErrBody)
	x.Feed([]byte("abc"))
	wantRest(t, x, "")
	wantNext(t, x, "", false, api.ErrBody)
	if !slices.Equal(*handed, []string{""}) {
		t.Errorf("handed %q", *handed)
	}
}

// An error that nobody was told yet stops no feed.
func TestFeedsAheadOfAnError(t *testing.T) {
	x := inbox.New(inbox.Request)
	x.Feed([]byte("x\r\n\r\n"))
	x.Feed([]byte("rest"))
	wantRest(t, x, "x\r\n\r\nrest")
	if _, ok, e := x.Next(); ok || e != api.ErrLine {
		t.Errorf("%v, %d", ok, e)
	}
	x.Feed([]byte("more"))
	wantRest(t, x, "x\r\n\r\nrest")
	if _, ok, e := x.Next(); ok || e != api.ErrLine {
		t.Errorf("%v, %d", ok, e)
	}
}

// Nothing is read but by Next.
func TestReadingIsNextsAlone(t *testing.T) {
	x, handed := byOrder(answer{"v", 1, api.OK})
	x.Feed([]byte("abc"))
	x.Rest()
	x.Feed([]byte("d"))
	if len(*handed) != 0 {
		t.Errorf("handed %q", *handed)
	}
	wantNext(t, x, "v", true, api.OK)
	x.Rest()
	if !slices.Equal(*handed, []string{"abcd"}) {
		t.Errorf("handed %q", *handed)
	}
}

// A thing that isn't there is the zero value of its kind, whatever the reading function answers beside it.
func TestNothingIsTheZeroValue(t *testing.T) {
	for _, errno := range []api.Errno{api.OK, api.ErrBody} {
		n := 7
		nothing(t, errno, n)
		nothing(t, errno, "text")
		nothing(t, errno, &n)
		nothing(t, errno, []string{"a"})
		nothing(t, errno, map[string]int{"a": 1})
		nothing(t, errno, [2]bool{true, true})
		nothing(t, errno, func() {})
		nothing[any](t, errno, "text")
		nothing[error](t, errno, api.ErrBody)
		nothing(t, errno, api.Message{Body: []byte("x"), Req: api.Request{Method: "GET"}})
	}
}

func nothing[T any](t *testing.T, errno api.Errno, value T) {
	t.Helper()
	for _, n := range []int{0, -1, 5} {
		if n > 0 && errno == api.OK {
			continue
		}
		x := inbox.New(func([]byte) (T, int, api.Errno) { return value, n, errno })
		for range 2 {
			got, ok, e := x.Next()
			if !reflect.ValueOf(&got).Elem().IsZero() || ok || e != errno {
				t.Errorf("Next() = %v, %v, %d", got, ok, e)
			}
		}
	}
}

// A thing is told as it was read, a zero value too.
func TestThingsAreAsTheyWereRead(t *testing.T) {
	n := 7
	pointers := inbox.New(func([]byte) (*int, int, api.Errno) { return &n, 1, api.OK })
	wantNext(t, pointers, &n, true, api.OK)
	failures := inbox.New(func([]byte) (error, int, api.Errno) { return api.ErrBody, 1, api.OK })
	wantNext(t, failures, error(api.ErrBody), true, api.OK)
	failures = inbox.New(func([]byte) (error, int, api.Errno) { return nil, 1, api.OK })
	wantNext(t, failures, nil, true, api.OK)
	counts := inbox.New(func([]byte) (int, int, api.Errno) { return 0, 1, api.OK })
	wantNext(t, counts, 0, true, api.OK)
}

// What a reading function keeps of its own is its business.
func TestReadingFunctionsThatCount(t *testing.T) {
	count := 0
	x := inbox.New(func(b []byte) (int, int, api.Errno) {
		count++
		return count, min(count, len(b)), api.OK
	})
	x.Feed([]byte("abcdefghij"))
	for i, rest := range []string{"bcdefghij", "defghij", "ghij", ""} {
		wantNext(t, x, i+1, true, api.OK)
		wantRest(t, x, rest)
	}
	wantNext(t, x, 0, false, api.OK)
}

// P1: no call panics; a reading function that does, or that there is none of, has read nothing.
func TestReadingFunctionsThatPanic(t *testing.T) {
	var list []int
	for _, fault := range []func(){func() { panic("text") }, func() { panic(errors.New("error")) }, func() { panic(api.ErrBody) }, func() { list[0]++ }} {
		broken := true
		x := inbox.New(func(b []byte) (string, int, api.Errno) {
			if broken {
				fault()
			}
			return string(b), 2, api.OK
		})
		x.Feed([]byte("abc"))
		for range 2 {
			wantNext(t, x, "", false, api.OK)
			wantRest(t, x, "abc")
		}
		broken = false
		x.Feed([]byte("d"))
		wantNext(t, x, "abcd", true, api.OK)
		wantRest(t, x, "cd")
	}
	x := inbox.New[string](nil)
	for range 2 {
		wantNext(t, x, "", false, api.OK)
		x.Feed([]byte("a"))
	}
	wantRest(t, x, "aa")
}

// Rule 9: two boxes have nothing in common.
func TestTwoBoxes(t *testing.T) {
	one, two := inbox.New(line), inbox.New(line)
	one.Feed([]byte("a\nb"))
	wantRest(t, two, "")
	two.Feed([]byte("c\nd\x00\n"))
	wantNext(t, one, "a", true, api.OK)
	wantNext(t, two, "c", true, api.OK)
	wantNext(t, two, "", false, api.ErrToken)
	wantNext(t, one, "", false, api.OK)
	one.Feed([]byte("e\n"))
	two.Feed([]byte("f\n"))
	wantNext(t, one, "be", true, api.OK)
	wantRest(t, one, "")
	wantRest(t, two, "d\x00\n")
}

// P2: the same calls get the same answers.
func TestBoxesAnswerTheSameTwice(t *testing.T) {
	for _, s := range everyText(4, "a", "\n", "\x00", "bc\n") {
		for size := 1; size < 4; size++ {
			told := func() []any {
				var all []any
				x := inbox.New(line)
				for _, piece := range inPieces(s, size) {
					x.Feed([]byte(piece))
					value, ok, e := x.Next()
					all = append(all, value, ok, e, string(x.Rest()))
				}
				return all
			}
			if one, two := told(), told(); !reflect.DeepEqual(one, two) {
				t.Fatalf("%q: %v, then %v", s, one, two)
			}
		}
	}
}

// P8.5, rule 5

func TestFedBytesStayAsTheyWere(t *testing.T) {
	for _, s := range []string{"", "a", "ab\ncd\n", "ab\n\x00\nc", strings.Repeat("x", 1000)} {
		first, firstMemory := withRoom([]byte(s), '!')
		second, secondMemory := withRoom([]byte("second\n"), '?')
		before, beforeToo := slices.Clone(firstMemory), slices.Clone(secondMemory)
		x := inbox.New(func(b []byte) (string, int, api.Errno) {
			value, n, e := line(b)
			overwrite(b, '#')
			return value, n, e
		})
		for range 3 {
			x.Feed(first)
			x.Feed(second)
			for {
				if _, ok, _ := x.Next(); !ok {
					break
				}
			}
			overwrite(x.Rest(), '%')
			x.Feed(second)
			x.Feed(first)
		}
		if !bytes.Equal(firstMemory, before) || !bytes.Equal(secondMemory, beforeToo) {
			t.Errorf("%s changed to %q and %q", short(s), firstMemory, secondMemory)
		}
	}
}

func TestFedBytesAreNotKept(t *testing.T) {
	for _, s := range []string{"a", "abc", "ab\ncd", strings.Repeat("x", 1000)} {
		x := inbox.New(line)
		first, firstMemory := withRoom([]byte(s), '!')
		x.Feed(first)
		apart(t, memoryOf(firstMemory), memoryOf(x.Rest()))
		overwrite(firstMemory, '#')
		wantRest(t, x, s)
		second, secondMemory := withRoom([]byte("d\ne"), '?')
		x.Feed(second)
		overwrite(secondMemory, '\n')
		wantRest(t, x, s+"d\ne")
		all, rest, _ := readAll(line, s+"d\ne")
		for _, thing := range all {
			wantNext(t, x, thing, true, api.OK)
		}
		wantNext(t, x, "", false, api.OK)
		wantRest(t, x, rest)
	}
	// One piece of memory may be used for every feed.
	x := inbox.New(line)
	one := make([]byte, 1)
	for _, c := range []byte("abc\nd") {
		one[0] = c
		x.Feed(one)
	}
	wantNext(t, x, "abc", true, api.OK)
	wantRest(t, x, "d")
}

func TestHandedBytesAreNewMemory(t *testing.T) {
	var handed [][]byte
	fed := []byte("\x03abc\x00\x02de\x05fg")
	x := inbox.New(func(b []byte) ([]byte, int, api.Errno) {
		handed = append(handed, b)
		return sized(b)
	})
	x.Feed(fed)
	var things [][]byte
	for {
		thing, ok, _ := x.Next()
		if !ok {
			break
		}
		things = append(things, thing)
	}
	if len(things) != 3 || len(handed) != 4 {
		t.Fatalf("%q, handed %q", things, handed)
	}
	x.Next()
	memories := []string{memoryOf(fed), memoryOf(x.Rest()), memoryOf(x.Rest())}
	for _, b := range handed {
		memories = append(memories, memoryOf(b))
	}
	apart(t, memories...)
	// A thing that lies in what was handed is nobody else's.
	for i, want := range []string{"abc", "", "de"} {
		if string(things[i]) != want {
			t.Errorf("the thing %d is %q", i, things[i])
		}
		overwrite(handed[i], '#')
	}
	wantRest(t, x, "\x05fg")
	overwrite(handed[3], '#')
	overwrite(handed[4], '\x00')
	wantRest(t, x, "\x05fg")
	x.Feed([]byte("hij"))
	overwrite(handed[4], '\x00')
	if thing, ok, e := x.Next(); string(thing) != "fghij" || !ok || e != api.OK {
		t.Errorf("%q, %v, %d", thing, ok, e)
	}
}

// What the reading function does with its bytes, or puts behind them, is not what the box has.
func TestHandedBytesThatAreChanged(t *testing.T) {
	for _, n := range []int{0, 1, 2} {
		x := inbox.New(func(b []byte) (string, int, api.Errno) {
			value := string(b)
			overwrite(append(b, "behind"...), '#')
			overwrite(b, '#')
			return value, n, api.OK
		})
		left := ""
		for range 5 {
			x.Feed([]byte("abc"))
			left += "abc"
			value, ok, e := x.Next()
			if ok != (n > 0) || ok && value != left || e != api.OK {
				t.Errorf("%q, %v, %d", value, ok, e)
			}
			left = left[n:]
			wantRest(t, x, left)
		}
	}
}

func TestRestIsNewMemory(t *testing.T) {
	x := inbox.New(line)
	x.Feed([]byte("ab\ncd"))
	for range 2 {
		one, two := x.Rest(), x.Rest()
		apart(t, memoryOf(one), memoryOf(two))
		overwrite(one, '#')
		if string(two) != "ab\ncd" {
			t.Errorf("%q changed with another answer", two)
		}
		wantRest(t, x, "ab\ncd")
	}
	before := x.Rest()
	x.Feed([]byte("e\nf"))
	wantNext(t, x, "ab", true, api.OK)
	if string(before) != "ab\ncd" {
		t.Errorf("%q changed with the box", before)
	}
	overwrite(x.Rest(), '\n')
	x.Feed([]byte("g"))
	wantNext(t, x, "cde", true, api.OK)
	wantRest(t, x, "fg")
	// Behind an error, too.
	x.Feed([]byte("\x00"))
	wantNext(t, x, "", false, api.ErrToken)
	overwrite(x.Rest(), '#')
	wantRest(t, x, "fg\x00")
}
