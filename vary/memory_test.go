package vary_test

import (
	"slices"
	"strings"
	"testing"
	"unsafe"

	"conduit/api"
	"conduit/vary"
)

// P17.4, rule 5: memory

// memoryOf: the list with its spare room, where it lies.
func memoryOf[T any](list []T) string {
	var one T
	return unsafe.String((*byte)(unsafe.Pointer(unsafe.SliceData(list))), cap(list)*int(unsafe.Sizeof(one)))
}

// within: does a byte of one text lie in the memory of the other?
func within(one, other string) bool {
	if one == "" || other == "" {
		return false
	}
	a, b := uintptr(unsafe.Pointer(unsafe.StringData(one))), uintptr(unsafe.Pointer(unsafe.StringData(other)))
	return a < b+uintptr(len(other)) && b < a+uintptr(len(one))
}

// apart: no two of the texts lie in the same memory.
func apart(t *testing.T, texts ...string) {
	t.Helper()
	for i, one := range texts {
		for _, other := range texts[:i] {
			if within(one, other) {
				t.Errorf("%.40q and %.40q lie in the same memory", one, other)
			}
		}
	}
}

// overwrite: fills the list and its spare room.
func overwrite[T any](list []T, with T) {
	list = list[:cap(list)]
	for i := range list {
		list[i] = with
	}
}

// overwriteTexts: fills the memory of texts that were answered, and of their list.
func overwriteTexts(list []string) {
	for _, s := range list {
		overwrite(unsafe.Slice(unsafe.StringData(s), len(s)), '#')
	}
	overwrite(list, "strange")
}

// lender: memory of which each byte can be changed, with what was put there.
type lender struct {
	memories [][]byte
	were     []string
}

// text: the text in memory that can be changed, with more bytes behind it.
func (l *lender) text(s string) string {
	memory := append([]byte(s), "behind the length, *"...)
	l.memories, l.were = append(l.memories, memory), append(l.were, string(memory))
	return unsafe.String(unsafe.SliceData(memory), len(s))
}

// texts: the texts in such memory, with more of them behind their list's length, and the whole list.
func (l *lender) texts(list []string) ([]string, []string) {
	var whole []string
	for _, s := range append(slices.Clone(list), "Behind", "*", "behind") {
		whole = append(whole, l.text(s))
	}
	return whole[:len(list)], whole
}

// fields: the fields in such memory, with more of them behind their list's length, and the whole list.
func (l *lender) fields(list []api.Field) ([]api.Field, []api.Field) {
	var whole []api.Field
	for _, f := range append(slices.Clone(list), pairs("Vary", "*", "First", "Behind", "Second", "", "First", "more")...) {
		whole = append(whole, api.Field{Name: l.text(f.Name), Value: l.text(f.Value)})
	}
	return whole[:len(list)], whole
}

func (l *lender) same() bool {
	for i, memory := range l.memories {
		if string(memory) != l.were[i] {
			return false
		}
	}
	return true
}

func (l *lender) change() {
	for _, memory := range l.memories {
		overwrite(memory, '#')
	}
}

// lentMemories: where all that was lent lies.
func (l *lender) lentMemories() []string {
	var all []string
	for _, memory := range l.memories {
		all = append(all, memoryOf(memory))
	}
	return all
}

// lists: lists of which each word has two bytes and more: a text of one byte is the same memory everywhere, which nobody can change.
func lists() [][]api.Field {
	return [][]api.Field{
		nil,
		varies("first"),
		varies("second, first"),
		varies("Second", "first,third", "FIRST , second", ""),
		varies(strings.Repeat("long", 1000)+", short", "\"Quoted, word\""),
		pairs("VARY", " Second,first ", "First", "value", "vary", "first", "Second", "A, b ,c", "first", "\"x,"),
	}
}

func TestNamesLeavesAndKeepsNothing(t *testing.T) {
	for _, list := range append(lists(), varies("First, *"), varies("*", "first")) {
		var l lender
		given, whole := l.fields(list)
		before := slices.Clone(whole)
		names, ok := vary.Names(given)
		if !l.same() || !slices.Equal(whole, before) {
			t.Errorf("Names(%.200q) has changed it", list)
		}
		apart(t, slices.Concat(l.lentMemories(), names, []string{memoryOf(whole), memoryOf(names)})...)
		l.change()
		overwrite(whole, api.Field{Name: "Vary", Value: "strange"})
		if want, wantOk := namesByPattern(list); !slices.Equal(names, want) || ok != wantOk {
			t.Errorf("what Names(%.200q) answers hangs on its memory, or on what lies behind it: %.200q", list, names)
		}
	}
}

func TestWhatNamesAnswersIsItsCallers(t *testing.T) {
	for _, list := range lists() {
		one, _ := vary.Names(list)
		two, _ := vary.Names(list)
		want, _ := namesByPattern(list)
		apart(t, slices.Concat(one, two, []string{memoryOf(one), memoryOf(two)})...)
		overwriteTexts(one)
		if !slices.Equal(two, want) {
			t.Errorf("two answers for %.200q share memory", list)
		}
		wantNames(t, list, want...)
		longer, other := append(two, "appended"), append(two[:len(two):len(two)], "another")
		if longer[len(want)] != "appended" || other[len(want)] != "another" {
			t.Errorf("answers for %.200q share spare room", list)
		}
		wantNames(t, list, want...)
	}
}

func TestKeyLeavesAndKeepsNothing(t *testing.T) {
	for _, list := range lists() {
		for _, words := range [][]string{nil, {"first"}, {"Second", "first", "other"}, {"FIRST", "", "First", "*"}, {"vary"}} {
			var l lender
			ask, wholeAsk := l.fields(list)
			names, wholeNames := l.texts(words)
			beforeAsk, beforeNames := slices.Clone(wholeAsk), slices.Clone(wholeNames)
			key := vary.Key(names, ask)
			again := vary.Key(names, ask)
			if !l.same() || !slices.Equal(wholeAsk, beforeAsk) || !slices.Equal(wholeNames, beforeNames) {
				t.Errorf("Key(%q, %.200q) has changed them", words, list)
			}
			if len(key) > 1 {
				apart(t, append(l.lentMemories(), key, again, memoryOf(wholeAsk), memoryOf(wholeNames))...)
			}
			l.change()
			overwrite(wholeAsk, api.Field{Name: "First", Value: "strange"})
			overwrite(wholeNames, "strange")
			if want := keyByPattern(words, list); key != want || again != want {
				t.Errorf("what Key(%q, %.200q) answers hangs on its memory, or on what lies behind it: %.200q", words, list, key)
			}
		}
	}
}

func TestMatchesLeavesAndKeepsNothing(t *testing.T) {
	asked := pairs("First", "value", "x", "y", "second", "")
	for _, list := range append(lists(), varies("First, *")) {
		words, ok := namesByPattern(list)
		key := keyByPattern(words, asked)
		var l lender
		told, wholeTold := l.fields(list)
		ask, wholeAsk := l.fields(asked)
		beforeTold, beforeAsk := slices.Clone(wholeTold), slices.Clone(wholeAsk)
		e := stored(l.text(key), told)
		body := []byte("body and more")
		e.Key, e.Body, e.Resp.Reason = l.text("key"), body[:4], l.text("Reason")
		if vary.Matches(e, ask) != ok {
			t.Errorf("Matches(%.200q) = %t, since it reads behind the lists", list, !ok)
		}
		if !l.same() || !slices.Equal(wholeTold, beforeTold) || !slices.Equal(wholeAsk, beforeAsk) || string(body) != "body and more" || e.Key != "key" || e.Vary != key {
			t.Errorf("Matches(%.200q) has changed it", list)
		}
		l.change()
		wantMatches(t, stored(key, list), asked, ok)
	}
}
