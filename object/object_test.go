package object_test

import (
	"bytes"
	"encoding/binary"
	"fmt"
	"hash/crc32"
	"math"
	"slices"
	"strings"
	"testing"

	"conduit/api"
	"conduit/head"
	"conduit/object"
)

// The limits as the document says them.
const (
	keyCap  = 4_096
	bodyCap = 65_536
	headCap = 8_192
	timeCap = 253_402_300_799
)

// The bytes of an entry, written a second time.

// part: a section, whatever its tag is, and however long it says that it is.
type part struct {
	tag    byte
	length uint32
	data   string
}

// right: a section that tells its own length.
func right(tag byte, data string) part {
	return part{tag, uint32(len(data)), data}
}

// summed: the bytes, and the right check sum behind them.
func summed(ahead string) []byte {
	return binary.BigEndian.AppendUint32([]byte(ahead), crc32.ChecksumIEEE([]byte(ahead)))
}

// file: a file of sections, with the right letters ahead and the right check sum behind.
func file(parts ...part) []byte {
	b := []byte("CO1")
	for _, p := range parts {
		b = append(binary.BigEndian.AppendUint32(append(b, p.tag), p.length), p.data...)
	}
	return summed(string(b))
}

// times: two numbers in eight bytes each.
func times(asked, got int) string {
	b := binary.BigEndian.AppendUint64(nil, uint64(asked))
	return string(binary.BigEndian.AppendUint64(b, uint64(got)))
}

// headOf: the head of a response that has one, line by line.
func headOf(r api.Response) string {
	s := fmt.Sprintf("HTTP/1.%d %d %s\r\n", r.Minor, r.Status, r.Reason)
	for _, f := range r.Fields {
		s += f.Name + ": " + f.Value + "\r\n"
	}
	return s + "\r\n"
}

// partsOf: the sections of an entry.
func partsOf(e api.Entry) []part {
	return []part{right(1, e.Key), right(2, e.Vary), right(3, headOf(e.Resp)), right(4, string(e.Body)), right(5, times(e.Asked, e.Got))}
}

// fileOf: the bytes of a right entry.
func fileOf(e api.Entry) []byte {
	return file(partsOf(e)...)
}

// Entries

// simple: the entry of the chapter's example.
func simple() api.Entry {
	return api.Entry{Key: "k", Resp: api.Response{Status: 200, Minor: 1}}
}

// usual: an entry that has something in each part.
func usual() api.Entry {
	return api.Entry{
		Key:  "http://ex.com/a?b",
		Vary: "accept: x\n",
		Resp: api.Response{Status: 203, Reason: "It is so", Minor: 1, Fields: []api.Field{
			{Name: "Content-Type", Value: "text/plain; q=\"1\""}, {Name: "ETag", Value: "\"e\""}, {Name: "x", Value: ""}, {Name: "X", Value: "a  b\tc"},
		}},
		Body: []byte("the body\r\n\r\nof it"), Asked: 784_111_777, Got: 784_111_780,
	}
}

// greatest: the entry of which no part may be longer.
func greatest() api.Entry {
	return api.Entry{
		Key:   strings.Repeat("k", keyCap),
		Vary:  strings.Repeat("v", keyCap),
		Resp:  longResponse(headCap),
		Body:  bytes.Repeat([]byte("body"), bodyCap/4),
		Asked: timeCap,
		Got:   timeCap,
	}
}

// turned: the entry, changed.
func turned(e api.Entry, change func(e *api.Entry)) api.Entry {
	change(&e)
	return e
}

// longResponse: a response whose head has n bytes.
func longResponse(n int) api.Response {
	r := api.Response{Status: 200, Reason: "OK", Minor: 1, Fields: []api.Field{{Name: "Long"}}}
	r.Fields[0].Value = strings.Repeat("x", n-len(headOf(r)))
	return r
}

// manyFields: a response with n fields.
func manyFields(n int) api.Response {
	return api.Response{Status: 200, Fields: slices.Repeat([]api.Field{{Name: "A", Value: "b"}}, n)}
}

// everyByte: a text with one byte of each value.
func everyByte() string {
	b := make([]byte, 256)
	for i := range b {
		b[i] = byte(i)
	}
	return string(b)
}

// anyBytes: a text of n bytes of all values.
func anyBytes(n int) string {
	return strings.Repeat(everyByte(), n/256+1)[:n]
}

// someTexts: texts of at most n bytes, short ones and those of the lengths at which something changes.
func someTexts(n int) []string {
	texts := []string{"", "\x00", "\xff", "\n", "k", "CO1", "http://a/", "a\nb", "\r\n\r\n", "\x02\x00\x00\x00\x00", "\u00e4\u20ac", "\xc3\x28", everyByte()}
	for _, length := range []int{2, 255, 256, 257, 4_095, 4_096, 4_097, 65_535, 65_536} {
		if length <= n {
			texts = append(texts, strings.Repeat("i", length), anyBytes(length))
		}
	}
	return texts
}

// someSeconds: right times.
func someSeconds() []int {
	return []int{0, 1, 2, 255, 256, 258, 65_536, 1 << 24, math.MaxInt32, math.MaxInt32 + 1, math.MaxUint32, math.MaxUint32 + 1, 0x3a01020304, 784_111_777, timeCap - 1, timeCap}
}

// wrongSeconds: times beyond the limit, of which many are right in their lower bits.
func wrongSeconds() []int {
	return []int{-1, -2, -256, math.MinInt32, -timeCap, timeCap + 1, timeCap + 2, 1 << 40, 1<<40 + 1, 1 << 48, 1 << 56, 1 << 62, math.MaxInt - 1, math.MaxInt, math.MinInt, math.MinInt + 1, -1 << 40}
}

// someResponses: such as head.PrintResponse takes.
func someResponses() []api.Response {
	list := []api.Response{
		{Status: 200}, {Status: 200, Minor: 1}, {Status: 100, Minor: 1}, {Status: 599}, {Status: 304, Reason: "Not Modified", Minor: 1},
		{Status: 200, Reason: " "}, {Status: 200, Reason: "  blanks  "}, {Status: 200, Reason: "\t"}, {Status: 200, Reason: "200 HTTP/1.1 200 OK"}, {Status: 200, Reason: "\x80\xff\u00e4"},
		{Status: 200, Fields: []api.Field{}},
		{Status: 200, Fields: []api.Field{{Name: "A", Value: ""}}},
		{Status: 200, Fields: []api.Field{{Name: "A", Value: "b"}, {Name: "a", Value: "c"}, {Name: "A", Value: "b"}}},
		{Status: 200, Fields: []api.Field{{Name: "!#$%&'*+-.^_|~`09azAZ", Value: "a:b: c"}}},
		{Status: 200, Fields: []api.Field{{Name: "A", Value: "b \t c"}, {Name: "B", Value: "\x80 \xff"}, {Name: "Content-Length", Value: "77"}, {Name: "Transfer-Encoding", Value: "chunked"}}},
		longResponse(headCap - 1), longResponse(headCap), manyFields(99), manyFields(100),
	}
	for status := 100; status <= 599; status++ {
		list = append(list, api.Response{Status: status, Reason: "R"})
	}
	return list
}

// wrongResponses: such as head.PrintResponse refuses, for each reason.
func wrongResponses() []api.Response {
	list := []api.Response{
		{}, {Status: 99}, {Status: 600}, {Status: -200}, {Status: 1_200}, {Status: math.MaxInt}, {Status: math.MinInt}, {Status: 1<<32 + 200},
		{Status: 200, Minor: -1}, {Status: 200, Minor: 2}, {Status: 200, Minor: 10}, {Status: 200, Minor: math.MaxInt}, {Status: 200, Minor: 1<<32 + 1},
		{Status: 200, Reason: "a\nb"}, {Status: 200, Reason: "a\r\nB: c"}, {Status: 200, Reason: "\x00"}, {Status: 200, Reason: "a\x7f"}, {Status: 200, Reason: "\r"},
		longResponse(headCap + 1), longResponse(100_000), manyFields(101), manyFields(1_000),
	}
	for _, f := range []api.Field{
		{}, {Name: "", Value: "b"}, {Name: "A ", Value: "b"}, {Name: "A:", Value: "b"}, {Name: "\u00e4", Value: "b"}, {Name: "A", Value: " b"}, {Name: "A", Value: "b\t"},
		{Name: "A", Value: " "}, {Name: "A", Value: "b\r\nC: d"}, {Name: "A", Value: "\n"}, {Name: "A", Value: "\x00"}, {Name: "A", Value: "\x7f"},
	} {
		list = append(list, api.Response{Status: 200, Minor: 1, Fields: []api.Field{f}}, api.Response{Status: 200, Minor: 1, Fields: []api.Field{{Name: "Ok", Value: "v"}, f}})
	}
	return list
}

// rightEntries: many, with each part at its edges.
func rightEntries() []api.Entry {
	list := []api.Entry{simple(), usual(), greatest()}
	for _, s := range someTexts(keyCap) {
		list = append(list, turned(usual(), func(e *api.Entry) { e.Vary = s }), turned(simple(), func(e *api.Entry) { e.Vary = s }))
		if s != "" {
			list = append(list, turned(usual(), func(e *api.Entry) { e.Key = s }), turned(simple(), func(e *api.Entry) { e.Key, e.Vary = s, s }))
		}
	}
	for _, s := range someTexts(bodyCap) {
		list = append(list, turned(usual(), func(e *api.Entry) { e.Body = []byte(s) }), turned(simple(), func(e *api.Entry) { e.Body = []byte(s) }))
	}
	for _, n := range someSeconds() {
		list = append(list, turned(usual(), func(e *api.Entry) { e.Asked = n }), turned(usual(), func(e *api.Entry) { e.Got = n }))
	}
	for _, r := range someResponses() {
		list = append(list, turned(usual(), func(e *api.Entry) { e.Resp = r }))
	}
	return list
}

// wrongEntries: such as aren't right, for one reason each, and some for several.
func wrongEntries() []api.Entry {
	var list []api.Entry
	for _, e := range []api.Entry{simple(), usual(), greatest()} {
		list = append(list,
			turned(e, func(e *api.Entry) { e.Key = "" }),
			turned(e, func(e *api.Entry) { e.Key = strings.Repeat("k", keyCap+1) }),
			turned(e, func(e *api.Entry) { e.Key = strings.Repeat("k", 1_000_000) }),
			turned(e, func(e *api.Entry) { e.Vary = strings.Repeat("v", keyCap+1) }),
			turned(e, func(e *api.Entry) { e.Vary = strings.Repeat("v", 1_000_000) }),
			turned(e, func(e *api.Entry) { e.Body = make([]byte, bodyCap+1) }),
			turned(e, func(e *api.Entry) { e.Body = make([]byte, 1_000_000) }),
			turned(e, func(e *api.Entry) { e.Key, e.Asked = "", -1 }),
		)
		for _, n := range wrongSeconds() {
			list = append(list, turned(e, func(e *api.Entry) { e.Asked = n }), turned(e, func(e *api.Entry) { e.Got = n }), turned(e, func(e *api.Entry) { e.Asked, e.Got = n, n }))
		}
		for _, r := range wrongResponses() {
			list = append(list, turned(e, func(e *api.Entry) { e.Resp = r }))
		}
	}
	return append(list, api.Entry{})
}

// What is wanted

// short: an entry of which no more than its beginnings and lengths are told.
func short(e api.Entry) string {
	return fmt.Sprintf("{%.30q of %d, %.30q of %d, %.100q, %.30q of %d, %d, %d}", e.Key, len(e.Key), e.Vary, len(e.Vary), fmt.Sprint(e.Resp), e.Body, len(e.Body), e.Asked, e.Got)
}

func same(a, b api.Entry) bool {
	return a.Key == b.Key && a.Vary == b.Vary && bytes.Equal(a.Body, b.Body) && a.Asked == b.Asked && a.Got == b.Got &&
		a.Resp.Status == b.Resp.Status && a.Resp.Reason == b.Resp.Reason && a.Resp.Minor == b.Resp.Minor && slices.Equal(a.Resp.Fields, b.Resp.Fields)
}

func wantEncode(t *testing.T, e api.Entry, want []byte, errno api.Errno) {
	t.Helper()
	if got, c := object.Encode(e); !bytes.Equal(got, want) || c != errno {
		t.Errorf("Encode(%s) = %.80q of %d, %d; want %.80q of %d, %d", short(e), got, len(got), c, want, len(want), errno)
	}
}

func wantDecode(t *testing.T, b []byte, want api.Entry, errno api.Errno) {
	t.Helper()
	if got, c := object.Decode(b); !same(got, want) || c != errno {
		t.Errorf("Decode(%.120q of %d) = %s, %d; want %s, %d", b, len(b), short(got), c, short(want), errno)
	}
}

// refused: the bytes are no entry's; then all else is its zero value.
func refused(t *testing.T, b []byte) {
	t.Helper()
	wantDecode(t, b, api.Entry{}, api.ErrObject)
}

// P12.1: Id

func TestId(t *testing.T) {
	for _, c := range []struct{ key, vary, want string }{
		{"k", "v", "k\nv"}, {"", "", "\n"}, {"k", "", "k\n"}, {"", "v", "\nv"}, {"\n", "\n", "\n\n\n"}, {"http://a/", "accept: b", "http://a/\naccept: b"}, {"a\nb", "c", "a\nb\nc"},
		{"\x00", "\xff", "\x00\n\xff"},
	} {
		if got := object.Id(c.key, c.vary); got != c.want {
			t.Errorf("Id(%q, %q) = %q, not %q", c.key, c.vary, got, c.want)
		}
	}
	// It has no limit of its own, and takes what is no entry's, too.
	texts := append(someTexts(bodyCap), strings.Repeat("long", 100_000))
	for _, key := range texts {
		for _, vary := range texts {
			got := object.Id(key, vary)
			if len(got) != len(key)+1+len(vary) || got[:len(key)] != key || got[len(key)] != 10 || got[len(key)+1:] != vary {
				t.Errorf("Id(%.40q of %d, %.40q of %d) = %.80q of %d", key, len(key), vary, len(vary), got, len(got))
			}
		}
	}
}

// P12.2: Encode

func TestEncodeExample(t *testing.T) {
	b, errno := object.Encode(simple())
	if len(b) != 3+6+5+22+5+21+4 || errno != api.OK {
		t.Errorf("%q of %d, %d", b, len(b), errno)
	}
	want := "CO1" + "\x01\x00\x00\x00\x01k" + "\x02\x00\x00\x00\x00" + "\x03\x00\x00\x00\x11HTTP/1.1 200 \r\n\r\n" + "\x04\x00\x00\x00\x00" +
		"\x05\x00\x00\x00\x10\x00\x00\x00\x00\x00\x00\x00\x00\x00\x00\x00\x00\x00\x00\x00\x00"
	wantEncode(t, simple(), summed(want), api.OK)
}

func TestEncodeByteByByte(t *testing.T) {
	e := api.Entry{
		Key: "key\n", Vary: "\xff", Body: anyBytes258(), Asked: 0x0102030405, Got: 0x3a000000fe,
		Resp: api.Response{Status: 404, Reason: "No", Fields: []api.Field{{Name: "A", Value: "b"}, {Name: "c", Value: ""}}},
	}
	want := "CO1" + "\x01\x00\x00\x00\x04key\n" + "\x02\x00\x00\x00\x01\xff" + "\x03\x00\x00\x00\x1eHTTP/1.0 404 No\r\nA: b\r\nc: \r\n\r\n" + "\x04\x00\x00\x01\x02" + string(anyBytes258()) +
		"\x05\x00\x00\x00\x10\x00\x00\x00\x01\x02\x03\x04\x05\x00\x00\x00\x3a\x00\x00\x00\xfe"
	wantEncode(t, e, summed(want), api.OK)
}

// anyBytes258: a body whose length has two bytes that aren't alike.
func anyBytes258() []byte {
	return []byte(anyBytes(258))
}

func TestEncodeOfRightEntries(t *testing.T) {
	for _, e := range rightEntries() {
		wantEncode(t, e, fileOf(e), api.OK)
	}
}

func TestEncodeOfWrongEntries(t *testing.T) {
	for _, e := range wrongEntries() {
		wantEncode(t, e, nil, api.ErrObject)
	}
}

func TestEncodeOfKeys(t *testing.T) {
	for n, errno := range map[int]api.Errno{0: api.ErrObject, 1: api.OK, 2: api.OK, keyCap - 1: api.OK, keyCap: api.OK, keyCap + 1: api.ErrObject, 2 * keyCap: api.ErrObject, bodyCap: api.ErrObject, 1<<16 + 1: api.ErrObject} {
		wantErrno(t, turned(simple(), func(e *api.Entry) { e.Key = strings.Repeat("\xff", n) }), errno)
	}
}

func TestEncodeOfVarys(t *testing.T) {
	for n, errno := range map[int]api.Errno{0: api.OK, 1: api.OK, keyCap - 1: api.OK, keyCap: api.OK, keyCap + 1: api.ErrObject, 2 * keyCap: api.ErrObject, 1 << 16: api.ErrObject} {
		wantErrno(t, turned(simple(), func(e *api.Entry) { e.Vary = strings.Repeat("\xff", n) }), errno)
	}
}

func TestEncodeOfBodies(t *testing.T) {
	for n, errno := range map[int]api.Errno{0: api.OK, 1: api.OK, bodyCap - 1: api.OK, bodyCap: api.OK, bodyCap + 1: api.ErrObject, 2 * bodyCap: api.ErrObject, 1 << 24: api.ErrObject} {
		wantErrno(t, turned(simple(), func(e *api.Entry) { e.Body = make([]byte, n) }), errno)
	}
}

func TestEncodeOfTimes(t *testing.T) {
	for n, errno := range map[int]api.Errno{-1: api.ErrObject, 0: api.OK, 1: api.OK, timeCap: api.OK, timeCap + 1: api.ErrObject, math.MaxInt: api.ErrObject, math.MinInt: api.ErrObject} {
		wantErrno(t, turned(simple(), func(e *api.Entry) { e.Asked = n }), errno)
		wantErrno(t, turned(simple(), func(e *api.Entry) { e.Got = n }), errno)
	}
	// Neither has to come ahead of the other.
	wantErrno(t, turned(simple(), func(e *api.Entry) { e.Asked, e.Got = timeCap, 0 }), api.OK)
	wantErrno(t, turned(simple(), func(e *api.Entry) { e.Asked, e.Got = 0, timeCap }), api.OK)
}

func TestEncodeTakesWhatPrintResponseTakes(t *testing.T) {
	for _, r := range append(someResponses(), wrongResponses()...) {
		errno := api.OK
		if _, c := head.PrintResponse(r); c != api.OK {
			errno = api.ErrObject
		}
		wantErrno(t, turned(usual(), func(e *api.Entry) { e.Resp = r }), errno)
	}
}

func wantErrno(t *testing.T, e api.Entry, errno api.Errno) {
	t.Helper()
	b, c := object.Encode(e)
	if c != errno || (len(b) == 0) != (errno != api.OK) {
		t.Errorf("Encode(%s) = %d bytes, %d; want %d", short(e), len(b), c, errno)
	}
}

func TestTheGreatestEntry(t *testing.T) {
	b, errno := object.Encode(greatest())
	if len(b) != 3+5*5+2*keyCap+headCap+bodyCap+16+4 || len(b) > 100_000 || errno != api.OK {
		t.Errorf("%d bytes, %d", len(b), errno)
	}
	wantDecode(t, b, greatest(), api.OK)
}

// P2: the same arguments, the same answers, whatever was asked between.
func TestAgainTheSame(t *testing.T) {
	for range 3 {
		for _, e := range []api.Entry{usual(), simple(), greatest()} {
			wantEncode(t, e, fileOf(e), api.OK)
			wantEncode(t, api.Entry{}, nil, api.ErrObject)
			refused(t, []byte("CO1"))
			wantDecode(t, fileOf(e), e, api.OK)
		}
	}
}
