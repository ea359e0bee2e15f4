package valid_test

import (
	"slices"
	"strings"
	"testing"
	"unsafe"

	"conduit/api"
	"conduit/valid"
)

// P18.6, rule 5: memory

// memoryOf: the list with its spare room, where it lies.
func memoryOf[T any](list []T) string {
	var one T
	return unsafe.String((*byte)(unsafe.Pointer(unsafe.SliceData(list))), cap(list)*int(unsafe.Sizeof(one)))
}

// memoriesOf: where the fields and their list lie.
func memoriesOf(list []api.Field) []string {
	all := []string{memoryOf(list)}
	for _, f := range list {
		all = append(all, f.Name, f.Value)
	}
	return all
}

// within: does a byte of one text lie in the memory of the other?
func within(one, other string) bool {
	if one == "" || other == "" {
		return false
	}
	a, b := uintptr(unsafe.Pointer(unsafe.StringData(one))), uintptr(unsafe.Pointer(unsafe.StringData(other)))
	return a < b+uintptr(len(other)) && b < a+uintptr(len(one))
}

// apart: no two of the texts lie in the same memory.
func apart(t *testing.T, texts ...string) {
	t.Helper()
	for i, one := range texts {
		for _, other := range texts[:i] {
			if within(one, other) {
				t.Errorf("%.40q and %.40q lie in the same memory", one, other)
			}
		}
	}
}

// overwrite: fills the list and its spare room.
func overwrite[T any](list []T, with T) {
	list = list[:cap(list)]
	for i := range list {
		list[i] = with
	}
}

// overwriteFields: fills the memory of fields that were answered, and of their list.
func overwriteFields(list []api.Field) {
	for _, f := range list {
		overwriteText(f.Name)
		overwriteText(f.Value)
	}
	overwrite(list, api.Field{Name: "A", Value: "strange"})
}

func overwriteText(s string) {
	overwrite(unsafe.Slice(unsafe.StringData(s), len(s)), '#')
}

// lender: memory of which each byte can be changed, with what was put there.
type lender struct {
	memories [][]byte
	were     []string
}

// text: the text in memory that can be changed, with more bytes behind it.
func (l *lender) text(s string) string {
	memory := append([]byte(s), "\" behind the length, *"...)
	l.memories, l.were = append(l.memories, memory), append(l.were, string(memory))
	return unsafe.String(unsafe.SliceData(memory), len(s))
}

// fields: the fields in such memory, with more of them behind their list's length, and the whole list.
func (l *lender) fields(list []api.Field) ([]api.Field, []api.Field) {
	var whole []api.Field
	for _, f := range append(slices.Clone(list), pairs("If-None-Match", "*", "ETag", "\"behind\"", "Last-Modified", late, "If-Modified-Since", late, "First", "behind")...) {
		whole = append(whole, api.Field{Name: l.text(f.Name), Value: l.text(f.Value)})
	}
	return whole[:len(list)], whole
}

func (l *lender) same() bool {
	for i, memory := range l.memories {
		if string(memory) != l.were[i] {
			return false
		}
	}
	return true
}

func (l *lender) change() {
	for _, memory := range l.memories {
		overwrite(memory, '#')
	}
}

// lentMemories: where all that was lent lies.
func (l *lender) lentMemories() []string {
	var all []string
	for _, memory := range l.memories {
		all = append(all, memoryOf(memory))
	}
	return all
}

// lists: lists of which each text has two bytes and more, or none: a text of one byte is the same memory everywhere, which nobody can change.
func lists() [][]api.Field {
	long := "\"" + strings.Repeat("long", 1000) + "\""
	return [][]api.Field{
		nil,
		pairs("ETag", "\"\""),
		pairs("ETag", "W/\"aa\"", "Last-Modified", early),
		pairs("Last-Modified", "Sunday, 06-Nov-94 08:49:37 GMT", "First", "value", "first", ""),
		pairs("etag", long, "LAST-MODIFIED", late, "Content-Length", "12", "Second", "value", "SECOND", "other"),
		pairs("If-None-Match", "\"xx\" , W/\"aa\"", "If-Modified-Since", late, "First", "other", "connection", "Second"),
		pairs("If-Modified-Since", late, "Second", "third"),
		pairs("ETag", "\"aa\"", "ETag", "\"bb\"", "Last-Modified", "Thu", "last-modified", "01 Jan 1970 00:01:40 GMT"),
	}
}

func TestTagAndSameLeaveAndKeepNothing(t *testing.T) {
	for _, s := range []string{"", "\"\"", "W/\"\"", "\"aa\"", "W/\"aa\"", "\"aa", "W/", "no tag", "\"" + strings.Repeat("long", 1000) + "\""} {
		var l lender
		given := l.text(s)
		part, weak, is := valid.Tag(given)
		again, _, _ := valid.Tag(given)
		same, strong := valid.Same(given, l.text(s), false), valid.Same(l.text(s), given, true)
		if !l.same() {
			t.Errorf("Tag or Same of %.40q has changed it", s)
		}
		apart(t, append(l.lentMemories(), part, again)...)
		l.change()
		overwriteText(again)
		want, mark := tagByPattern(s)
		if part != want || weak != (mark != "") || is != (want != "") || same != is || strong != (is && !weak) {
			t.Errorf("what Tag and Same of %.40q answer hangs on its memory: %.40q, %t, %t, %t, %t", s, part, weak, is, same, strong)
		}
		wantTagAsOracle(t, s)
	}
}

func TestAskLeavesAndKeepsNothing(t *testing.T) {
	for _, list := range lists() {
		var l lender
		given, whole := l.fields(list)
		before := slices.Clone(whole)
		r := api.Response{Status: 200, Reason: l.text("Reason"), Fields: given}
		ask := valid.Ask(r)
		if !l.same() || !slices.Equal(whole, before) || r.Reason != "Reason" || r.Status != 200 || r.Minor != 0 {
			t.Errorf("Ask(%.200q) has changed it", list)
		}
		apart(t, slices.Concat(l.lentMemories(), []string{memoryOf(whole)}, memoriesOf(ask))...)
		l.change()
		overwrite(whole, api.Field{Name: "ETag", Value: "\"strange\""})
		if want := askByWords(api.Response{Fields: list}); !slices.Equal(ask, want) {
			t.Errorf("what Ask(%.200q) answers hangs on its memory, or on what lies behind it: %.200q", list, ask)
		}
	}
}

func TestUnchangedLeavesAndKeepsNothing(t *testing.T) {
	for _, asked := range lists() {
		for _, told := range lists() {
			var l lender
			ask, wholeAsk := l.fields(asked)
			given, wholeTold := l.fields(told)
			beforeAsk, beforeTold := slices.Clone(wholeAsk), slices.Clone(wholeTold)
			r := api.Response{Status: 200, Reason: l.text("Reason"), Fields: given}
			wantUnchanged(t, ask, r, unchangedByWords(asked, api.Response{Status: 200, Fields: told}))
			if !l.same() || !slices.Equal(wholeAsk, beforeAsk) || !slices.Equal(wholeTold, beforeTold) || r.Reason != "Reason" {
				t.Errorf("Unchanged(%.200q, %.200q) has changed them", asked, told)
			}
			l.change()
			wantUnchangedAsOracle(t, asked, api.Response{Status: 200, Fields: told})
		}
	}
}

// mergings: what is merged, also where the stored fields stay.
func mergings() [][2][]api.Field {
	var all [][2][]api.Field
	for _, stored := range append(lists(), many(99, "stored")) {
		for _, update := range append(lists(), many(101, "update")) {
			all = append(all, [2][]api.Field{stored, update})
		}
	}
	return all
}

func TestMergeLeavesAndKeepsNothing(t *testing.T) {
	for _, pair := range mergings() {
		var l lender
		stored, wholeStored := l.fields(pair[0])
		update, wholeUpdate := l.fields(pair[1])
		beforeStored, beforeUpdate := slices.Clone(wholeStored), slices.Clone(wholeUpdate)
		merged := valid.Merge(stored, update)
		if !l.same() || !slices.Equal(wholeStored, beforeStored) || !slices.Equal(wholeUpdate, beforeUpdate) {
			t.Errorf("Merge(%s, %s) has changed them", shown(pair[0]), shown(pair[1]))
		}
		apart(t, slices.Concat(l.lentMemories(), []string{memoryOf(wholeStored), memoryOf(wholeUpdate)}, memoriesOf(merged))...)
		l.change()
		overwrite(wholeStored, api.Field{Name: "First", Value: "strange"})
		overwrite(wholeUpdate, api.Field{Name: "First", Value: "strange"})
		if want := mergeByWords(pair[0], pair[1]); !slices.Equal(merged, want) {
			t.Errorf("what Merge(%s, %s) answers hangs on its memory, or on what lies behind it: %s", shown(pair[0]), shown(pair[1]), shown(merged))
		}
	}
}

// Both lists may be the same one, or lie in one another.
func TestMergeOfAListWithItself(t *testing.T) {
	for _, list := range lists() {
		var l lender
		given, whole := l.fields(list)
		for i := range len(given) + 1 {
			wantMergeAsOracle(t, given, given[:i])
			wantMergeAsOracle(t, given[i:], given)
			wantMergeAsOracle(t, given[:i], given[i:])
			wantMergeAsOracle(t, whole[:i], whole)
		}
		if !l.same() {
			t.Errorf("Merge of %.200q with itself has changed it", list)
		}
	}
}

// twice: two answers of one call have nothing in common, so one of them may be filled with anything.
func twice(t *testing.T, call func() []api.Field, want []api.Field) {
	t.Helper()
	one, two := call(), call()
	apart(t, slices.Concat(memoriesOf(one), memoriesOf(two))...)
	overwriteFields(one)
	if !slices.Equal(two, want) {
		t.Errorf("two answers share memory: %s; want %s", shown(two), shown(want))
	}
	longer, other := append(two, api.Field{Name: "longer"}), append(two[:len(two):len(two)], api.Field{Name: "other"})
	if longer[len(want)].Name != "longer" || other[len(want)].Name != "other" {
		t.Errorf("answers share spare room: %s", shown(want))
	}
	if three := call(); !slices.Equal(three, want) {
		t.Errorf("a later answer hangs on an earlier one: %s; want %s", shown(three), shown(want))
	}
}

func TestWhatIsAnsweredIsItsCallers(t *testing.T) {
	for _, list := range lists() {
		r := api.Response{Fields: list}
		twice(t, func() []api.Field { return valid.Ask(r) }, askByWords(r))
	}
	for _, pair := range mergings() {
		twice(t, func() []api.Field { return valid.Merge(pair[0], pair[1]) }, mergeByWords(pair[0], pair[1]))
	}
}
