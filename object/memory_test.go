package object_test

import (
	"bytes"
	"slices"
	"testing"
	"unsafe"

	"conduit/api"
	"conduit/object"
)

// P12.4, rule 5: memory

// memoryOf: the list with its spare room, where it lies.
func memoryOf[T any](list []T) string {
	var one T
	return unsafe.String((*byte)(unsafe.Pointer(unsafe.SliceData(list))), cap(list)*int(unsafe.Sizeof(one)))
}

// memoriesOf: where the parts of an entry lie.
func memoriesOf(e api.Entry) []string {
	all := []string{e.Key, e.Vary, e.Resp.Reason, memoryOf(e.Resp.Fields), memoryOf(e.Body)}
	for _, f := range e.Resp.Fields {
		all = append(all, f.Name, f.Value)
	}
	return all
}

// within: does a byte of one text lie in the memory of the other?
func within(one, other string) bool {
	if one == "" || other == "" {
		return false
	}
	a, b := uintptr(unsafe.Pointer(unsafe.StringData(one))), uintptr(unsafe.Pointer(unsafe.StringData(other)))
	return a < b+uintptr(len(other)) && b < a+uintptr(len(one))
}

// apart: no two of the texts lie in the same memory.
func apart(t *testing.T, texts ...string) {
	t.Helper()
	for i, one := range texts {
		for _, other := range texts[:i] {
			if within(one, other) {
				t.Errorf("%.40q and %.40q lie in the same memory", one, other)
			}
		}
	}
}

// overwrite: fills the list and its spare room.
func overwrite[T any](list []T, with T) {
	list = list[:cap(list)]
	for i := range list {
		list[i] = with
	}
}

// lender: memory of which each byte can be changed, with what was put there.
type lender struct {
	memories [][]byte
	were     []string
}

// text: the text in memory that can be changed, with more bytes behind it.
func (l *lender) text(s string) string {
	b := l.bytes([]byte(s))
	return unsafe.String(unsafe.SliceData(b), len(b))
}

func (l *lender) bytes(b []byte) []byte {
	memory := append(bytes.Clone(b), "behind the length"...)
	l.memories, l.were = append(l.memories, memory), append(l.were, string(memory))
	return memory[:len(b)]
}

// entry: the entry in such memory.
func (l *lender) entry(e api.Entry) api.Entry {
	e.Key, e.Vary, e.Resp.Reason, e.Body = l.text(e.Key), l.text(e.Vary), l.text(e.Resp.Reason), l.bytes(e.Body)
	var list []api.Field
	for _, f := range e.Resp.Fields {
		list = append(list, api.Field{Name: l.text(f.Name), Value: l.text(f.Value)})
	}
	e.Resp.Fields = list
	return e
}

func (l *lender) same() bool {
	for i, memory := range l.memories {
		if string(memory) != l.were[i] {
			return false
		}
	}
	return true
}

func (l *lender) change() {
	for _, memory := range l.memories {
		overwrite(memory, '#')
	}
}

// lentMemories: where all that was lent lies.
func (l *lender) lentMemories() []string {
	var all []string
	for _, memory := range l.memories {
		all = append(all, memoryOf(memory))
	}
	return all
}

// lasting: entries of which each text has no byte or two and more: a text of one byte is the same memory everywhere, which nobody can change.
func lasting() []api.Entry {
	return []api.Entry{
		turned(simple(), func(e *api.Entry) { e.Key = "key" }),
		turned(usual(), func(e *api.Entry) {
			e.Resp.Fields = []api.Field{{Name: "First", Value: "value"}, {Name: "Second", Value: ""}, {Name: "First", Value: "value"}, {Name: "Third", Value: "a b"}}
		}),
		turned(usual(), func(e *api.Entry) {
			e.Key, e.Vary, e.Resp, e.Body = "same", "same", api.Response{Status: 200, Reason: "same"}, []byte("same")
		}),
		greatest(),
	}
}

func TestEncodeLeavesAndKeepsNothing(t *testing.T) {
	for _, e := range slices.Concat(lasting(), rightEntries(), wrongEntries()) {
		var l lender
		given := l.entry(e)
		spare := append(slices.Clone(given.Resp.Fields), api.Field{Name: "behind", Value: "it"})
		given.Resp.Fields = spare[:len(spare)-1]
		b, errno := object.Encode(given)
		if !l.same() || spare[len(spare)-1] != (api.Field{Name: "behind", Value: "it"}) || !same(given, e) {
			t.Errorf("Encode(%s) has changed it", short(e))
		}
		for _, lent := range append(l.lentMemories(), memoryOf(spare)) {
			apart(t, memoryOf(b), lent)
		}
		l.change()
		if errno == api.OK && !bytes.Equal(b, fileOf(e)) {
			t.Errorf("what Encode(%s) answers hangs on its memory", short(e))
		}
	}
}

func TestWhatEncodeAnswersIsItsCallers(t *testing.T) {
	for _, e := range lasting() {
		var l lender
		given := l.entry(e)
		one, _ := object.Encode(given)
		two, _ := object.Encode(given)
		apart(t, memoryOf(one), memoryOf(two))
		overwrite(one, '#')
		if !l.same() || !bytes.Equal(two, fileOf(e)) {
			t.Errorf("two answers for %s share memory", short(e))
		}
		wantEncode(t, given, two, api.OK)
	}
}

func TestDecodeLeavesAndKeepsNothing(t *testing.T) {
	for _, e := range lasting() {
		b := fileOf(e)
		turnedByte := bytes.Clone(b)
		turnedByte[len(b)/2] ^= 1
		for _, bs := range [][]byte{b, b[:len(b)-1], append(bytes.Clone(b), 0), turnedByte, nil} {
			var l lender
			given := l.bytes(bs)
			decoded, errno := object.Decode(given)
			if !l.same() {
				t.Errorf("Decode(%.80q) has changed it", bs)
			}
			apart(t, append(memoriesOf(decoded), l.lentMemories()...)...)
			l.change()
			want, c := oracle(bs)
			if !same(decoded, want) || errno != c {
				t.Errorf("what Decode(%.80q) answers hangs on its memory", bs)
			}
		}
	}
}

// What lies behind the length is no part of the bytes, be it all that is missing.
func TestDecodeReadsNothingBehindTheLength(t *testing.T) {
	for _, e := range lasting()[:3] {
		b := fileOf(e)
		for i := range b {
			refused(t, b[:i])
		}
		longer := append(bytes.Clone(b), b...)
		wantDecode(t, longer[:len(b)], e, api.OK)
	}
}

func TestWhatDecodeAnswersIsItsCallers(t *testing.T) {
	for _, e := range lasting() {
		b := fileOf(e)
		one, _ := object.Decode(b)
		two, _ := object.Decode(b)
		apart(t, append(memoriesOf(one), memoriesOf(two)...)...)
		overwrite(one.Body, '#')
		overwrite(one.Resp.Fields, api.Field{Name: "strange", Value: "strange"})
		if !same(two, e) || !bytes.Equal(b, fileOf(e)) {
			t.Errorf("two answers for %s share memory", short(e))
		}
		// Nor does the list of fields reach into the body, or the other way.
		overwrite(two.Body, '#')
		if !slices.Equal(two.Resp.Fields, e.Resp.Fields) || two.Key != e.Key || two.Vary != e.Vary || two.Resp.Reason != e.Resp.Reason {
			t.Errorf("the parts of %s share memory", short(e))
		}
		wantDecode(t, b, e, api.OK)
	}
}

func TestIdIsNewMemory(t *testing.T) {
	for _, key := range append(someTexts(keyCap), "") {
		for _, vary := range []string{"", "v", "vary", key} {
			var l lender
			id := object.Id(l.text(key), l.text(vary))
			if !l.same() {
				t.Errorf("Id(%.40q, %.40q) has changed them", key, vary)
			}
			for _, lent := range l.lentMemories() {
				apart(t, id, lent)
			}
			l.change()
			if id != key+"\n"+vary {
				t.Errorf("Id(%.40q, %.40q) hangs on their memory", key, vary)
			}
		}
	}
}
