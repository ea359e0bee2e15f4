package ranges_test

import (
	"slices"
	"strings"
	"testing"
	"unsafe"

	"conduit/api"
	"conduit/ranges"
)

// P19.3, rule 5: memory

// memoryOf: the list with its spare room, where it lies.
func memoryOf[T any](list []T) string {
	var one T
	return unsafe.String((*byte)(unsafe.Pointer(unsafe.SliceData(list))), cap(list)*int(unsafe.Sizeof(one)))
}

// memoriesOf: where a response and its body lie.
func memoriesOf(r api.Response, body []byte) []string {
	all := []string{r.Reason, memoryOf(r.Fields), memoryOf(body)}
	for _, f := range r.Fields {
		all = append(all, f.Name, f.Value)
	}
	return all
}

// within: does a byte of one text lie in the memory of the other?
func within(one, other string) bool {
	if one == "" || other == "" {
		return false
	}
	a, b := uintptr(unsafe.Pointer(unsafe.StringData(one))), uintptr(unsafe.Pointer(unsafe.StringData(other)))
	return a < b+uintptr(len(other)) && b < a+uintptr(len(one))
}

// apart: no two of the texts lie in the same memory.
func apart(t *testing.T, texts ...string) {
	t.Helper()
	for i, one := range texts {
		for _, other := range texts[:i] {
			if within(one, other) {
				t.Errorf("%.40q and %.40q lie in the same memory", one, other)
			}
		}
	}
}

// overwrite: fills the list and its spare room.
func overwrite[T any](list []T, with T) {
	list = list[:cap(list)]
	for i := range list {
		list[i] = with
	}
}

// overwriteAnswer: fills the memory of a response that was answered, and of its body.
func overwriteAnswer(r api.Response, body []byte) {
	for _, f := range r.Fields {
		overwriteText(f.Name)
		overwriteText(f.Value)
	}
	overwrite(r.Fields, api.Field{Name: "A", Value: "strange"})
	overwrite(body, '#')
	// The reasons of the layer's own are constants, which nobody can change.
	if r.Status != 206 && r.Status != 416 {
		overwriteText(r.Reason)
	}
}

func overwriteText(s string) {
	overwrite(unsafe.Slice(unsafe.StringData(s), len(s)), '#')
}

// lender: memory of which each byte can be changed, with what was put there.
type lender struct {
	memories [][]byte
	were     []string
}

// bytes: the bytes with more of them behind their length.
func (l *lender) bytes(b, behind string) []byte {
	memory := append([]byte(b), behind...)
	l.memories, l.were = append(l.memories, memory), append(l.were, string(memory))
	return memory[:len(b)]
}

// text: the text in memory that can be changed, with more behind it.
func (l *lender) text(s string) string {
	memory := l.bytes(s, "-9, 0-1, -1 behind the length")
	return unsafe.String(unsafe.SliceData(memory), len(memory))
}

// fields: the fields in such memory, with more of them behind their list's length, and the whole list.
func (l *lender) fields(list []api.Field) ([]api.Field, []api.Field) {
	var whole []api.Field
	for _, f := range append(slices.Clone(list), pairs("Range", "bytes=0-1", "If-Range", "\"behind\"", "ETag", "\"behind\"", "Last-Modified", late, "Content-Type", "behind")...) {
		whole = append(whole, api.Field{Name: l.text(f.Name), Value: l.text(f.Value)})
	}
	return whole[:len(list)], whole
}

func (l *lender) same() bool {
	for i, memory := range l.memories {
		if string(memory) != l.were[i] {
			return false
		}
	}
	return true
}

func (l *lender) change() {
	for _, memory := range l.memories {
		overwrite(memory, '#')
	}
}

// lentMemories: where all that was lent lies.
func (l *lender) lentMemories() []string {
	var all []string
	for _, memory := range l.memories {
		all = append(all, memoryOf(memory))
	}
	return all
}

func TestParseLeavesAndKeepsNothing(t *testing.T) {
	for _, value := range []string{"", "bytes=", "bytes=x", "bytes=9-", "bytes=1", "bytes=1-", "bytes=-1", "Bytes=0-1, -1, 9-", "bytes=0-0,1-1,2-2,3-3,4-4,0-,1-,2-", "bytes=" + strings.Repeat(",", 1000) + "0-"} {
		var l lender
		given := l.text(value)
		one, errno := ranges.Parse(given, 5)
		two, _ := ranges.Parse(given, 5)
		if !l.same() {
			t.Errorf("Parse(%.200q) has changed it", value)
		}
		apart(t, append(l.lentMemories(), memoryOf(one), memoryOf(two))...)
		l.change()
		overwrite(one, api.Span{First: -1, Last: -1})
		if want, wantErrno := parseByWords(value, 5); errno != wantErrno || !slices.Equal(two, want) {
			t.Errorf("what Parse(%.200q) answers hangs on its memory, or on what lies behind it: %v, %d", value, two, errno)
		}
		longer, other := append(two, api.Span{First: 7}), append(two[:len(two):len(two)], api.Span{First: 8})
		if longer[len(two)].First != 7 || other[len(two)].First != 8 {
			t.Errorf("answers for %.200q share spare room", value)
		}
		wantParsedAsOracle(t, value, 5)
	}
}

// question: what Apply is asked.
type question struct {
	ask  []api.Field
	r    api.Response
	body string
}

// questions: for each kind of answer some. Each text has two bytes and more, or none: a text of one byte is the same memory everywhere, which nobody can change.
func questions() []question {
	long := strings.Repeat("long", 1000)
	var all []question
	for _, ask := range [][]api.Field{
		nil,
		pairs("First", "value"),
		pairs("Range", ""),
		pairs("Range", "bytes=2-1"),
		pairs("Range", "bytes=99999-"),
		pairs("RANGE", "bytes=1-2"),
		pairs("Range", "bytes=0-"),
		pairs("First", "value", "Range", "bytes=0-1, -2"),
		pairs("Range", "bytes=0-1", "If-Range", "\"aa\""),
		pairs("Range", "bytes=0-1", "range", "-2", "if-range", late),
		pairs("If-Range", "\"none\"", "Range", "bytes=0-1"),
	} {
		for _, told := range [][]api.Field{
			nil,
			pairs("First", "value", "first", ""),
			pairs("Content-Type", "aa/bb", "Content-Length", "10", "ETag", "\"aa\"", "Content-Range", "none"),
			pairs("content-TYPE", "", "Last-Modified", late, "First", long, "Content-Type", long),
		} {
			for _, body := range []string{"", "ab", "--conduit-0", long} {
				for _, status := range []int{200, 404} {
					all = append(all, question{ask, api.Response{Status: status, Reason: "Reason", Minor: 1, Fields: told}, body})
				}
			}
		}
	}
	return all
}

func TestApplyLeavesAndKeepsNothing(t *testing.T) {
	answers := make(map[int]int)
	for _, q := range questions() {
		var l lender
		ask, wholeAsk := l.fields(q.ask)
		told, wholeTold := l.fields(q.r.Fields)
		beforeAsk, beforeTold := slices.Clone(wholeAsk), slices.Clone(wholeTold)
		r := q.r
		r.Reason, r.Fields = l.text(q.r.Reason), told
		// A boundary goes on behind the body's length, or begins there.
		body := l.bytes(q.body, "1--conduit-0--conduit-1")
		got, gotBody := ranges.Apply(ask, r, body)
		if !l.same() || !slices.Equal(wholeAsk, beforeAsk) || !slices.Equal(wholeTold, beforeTold) {
			t.Errorf("Apply(%.200q, %s) has changed them", q.ask, shown(q.r, []byte(q.body)))
		}
		apart(t, slices.Concat(l.lentMemories(), []string{memoryOf(wholeAsk), memoryOf(wholeTold)}, memoriesOf(got, gotBody))...)
		l.change()
		overwrite(wholeAsk, api.Field{Name: "First", Value: "strange"})
		overwrite(wholeTold, api.Field{Name: "First", Value: "strange"})
		if want, wantBody := applyByWords(q.ask, q.r, q.body); !sameResponse(got, want) || string(gotBody) != wantBody {
			t.Errorf("what Apply(%.200q, %s) answers hangs on its memory, or on what lies behind it: %s", q.ask, shown(q.r, []byte(q.body)), shown(got, gotBody))
		}
		answers[got.Status]++
	}
	for _, status := range []int{200, 206, 404, 416} {
		if answers[status] < 10 {
			t.Errorf("just %d of the answers have the status %d", answers[status], status)
		}
	}
}

// Two answers of one call have nothing in common, so one of them may be filled with anything.
func TestWhatApplyAnswersIsItsCallers(t *testing.T) {
	for _, q := range questions() {
		want, wantBody := applyByWords(q.ask, q.r, q.body)
		body := []byte(q.body)
		one, first := ranges.Apply(q.ask, q.r, body)
		two, second := ranges.Apply(q.ask, q.r, body)
		overwriteAnswer(one, first)
		if !sameResponse(two, want) || string(second) != wantBody || string(body) != q.body {
			t.Errorf("two answers share memory: %s; want %s", shown(two, second), shown(want, []byte(wantBody)))
		}
		n := len(two.Fields)
		longer, other := append(two.Fields, api.Field{Name: "longer"}), append(two.Fields[:n:n], api.Field{Name: "other"})
		if longer[n].Name != "longer" || other[n].Name != "other" {
			t.Errorf("answers share spare room: %s", shown(two, second))
		}
		wantAppliedAsOracle(t, q.ask, q.r, q.body)
	}
}

// What is asked and what is told may be the same list.
func TestApplyOfAListWithItself(t *testing.T) {
	list := pairs("Range", "bytes=0-0,-1", "ETag", "\"aa\"", "If-Range", "\"aa\"", "Content-Type", "aa/bb")
	for from := range list {
		for to := from; to <= len(list); to++ {
			before := slices.Clone(list)
			wantAppliedAsOracle(t, list, api.Response{Status: 200, Fields: list[from:to]}, "abcd")
			wantAppliedAsOracle(t, list[from:to], api.Response{Status: 200, Fields: list}, "abcd")
			wantAppliedAsOracle(t, list[from:to], api.Response{Status: 200, Fields: list[from:to]}, "abcd")
			if !slices.Equal(list, before) {
				t.Errorf("Apply of %.200q with itself has changed it", before)
			}
		}
	}
}
