package cache_test

import (
	"bytes"
	"slices"
	"strings"
	"testing"
	"unsafe"

	"conduit/api"
)

// P20.6, rule 5: memory

// memoryOf: the list with its spare room, where it lies.
func memoryOf[T any](list []T) string {
	var one T
	return unsafe.String((*byte)(unsafe.Pointer(unsafe.SliceData(list))), cap(list)*int(unsafe.Sizeof(one)))
}

// memoriesOf: where the parts of an entry lie.
func memoriesOf(e api.Entry) []string {
	all := []string{e.Key, e.Vary, e.Resp.Reason, memoryOf(e.Resp.Fields), memoryOf(e.Body)}
	for _, f := range e.Resp.Fields {
		all = append(all, f.Name, f.Value)
	}
	return all
}

// within: does a byte of one text lie in the memory of the other?
func within(one, other string) bool {
	if one == "" || other == "" {
		return false
	}
	a, b := uintptr(unsafe.Pointer(unsafe.StringData(one))), uintptr(unsafe.Pointer(unsafe.StringData(other)))
	return a < b+uintptr(len(other)) && b < a+uintptr(len(one))
}

// apart: no two of the texts lie in the same memory.
func apart(t *testing.T, texts ...string) {
	t.Helper()
	for i, one := range texts {
		for _, other := range texts[:i] {
			if within(one, other) {
				t.Errorf("%.40q and %.40q lie in the same memory", one, other)
			}
		}
	}
}

// overwrite: fills the list and its spare room.
func overwrite[T any](list []T, with T) {
	list = list[:cap(list)]
	for i := range list {
		list[i] = with
	}
}

// overwriteText: fills the memory of a text that was answered, which lies in memory of its own.
func overwriteText(s string) {
	overwrite(unsafe.Slice(unsafe.StringData(s), len(s)), '#')
}

// overwriteEntry: fills all memory of an entry that was answered.
func overwriteEntry(e api.Entry) {
	overwriteText(e.Key)
	overwriteText(e.Vary)
	overwriteText(e.Resp.Reason)
	for _, f := range e.Resp.Fields {
		overwriteText(f.Name)
		overwriteText(f.Value)
	}
	overwrite(e.Resp.Fields, api.Field{Name: "strange", Value: "strange"})
	overwrite(e.Body, '#')
}

// lender: memory of which each byte can be changed, with what was put there.
type lender struct {
	memories [][]byte
	were     []string
}

// text: the text in memory that can be changed, with more bytes behind it.
func (l *lender) text(s string) string {
	b := l.bytes([]byte(s))
	return unsafe.String(unsafe.SliceData(b), len(b))
}

func (l *lender) bytes(b []byte) []byte {
	memory := append(bytes.Clone(b), "behind the length"...)
	l.memories, l.were = append(l.memories, memory), append(l.were, string(memory))
	return memory[:len(b)]
}

// fields: the fields in such memory, with more of them behind their list's length, and the whole list.
func (l *lender) fields(list []api.Field) ([]api.Field, []api.Field) {
	var whole []api.Field
	for _, f := range append(slices.Clone(list), pairs("Vary", "*", "Lang", "behind")...) {
		whole = append(whole, api.Field{Name: l.text(f.Name), Value: l.text(f.Value)})
	}
	return whole[:len(list)], whole
}

// entry: the entry in such memory, and the whole list of its fields.
func (l *lender) entry(e api.Entry) (api.Entry, []api.Field) {
	e.Key, e.Vary, e.Resp.Reason, e.Body = l.text(e.Key), l.text(e.Vary), l.text(e.Resp.Reason), l.bytes(e.Body)
	var whole []api.Field
	e.Resp.Fields, whole = l.fields(e.Resp.Fields)
	return e, whole
}

func (l *lender) same() bool {
	for i, memory := range l.memories {
		if string(memory) != l.were[i] {
			return false
		}
	}
	return true
}

func (l *lender) change() {
	for _, memory := range l.memories {
		overwrite(memory, '#')
	}
}

// lentMemories: where all that was lent lies.
func (l *lender) lentMemories() []string {
	var all []string
	for _, memory := range l.memories {
		all = append(all, memoryOf(memory))
	}
	return all
}

// lasting: entries of which each text has no byte or two and more: a text of one byte is the same memory everywhere, which nobody can change. Those of asked match.
func lasting() []api.Entry {
	full := entry("http://ex.com/", "the body", 1)
	full.Resp.Reason = "Reason"
	full.Vary, full.Resp.Fields = "lang:de\n", pairs("Vary", "Lang", "Second", "", "First", "value")
	plain := entry("http://ex.com/a", "", 2)
	plain.Resp.Status = 204
	long := entry(strings.Repeat("k", 2_000), strings.Repeat("x", 65_536), 3)
	long.Vary, long.Resp.Fields = "lang:de\nother\n", pairs("vary", "Lang", "Vary", "Other")
	return []api.Entry{full, plain, long}
}

func asked() []api.Field {
	return pairs("Lang", "de", "Accept", "any")
}

// tiers: caches that keep all in memory, all but the last in the store alone, and all in the store alone.
func tiers(t *testing.T) []stand {
	return []stand{alone(t, 1<<20), over(t, 1<<20), over(t, 66_000), over(t, 0)}
}

func TestSaveLeavesAndKeepsNothing(t *testing.T) {
	for _, e := range append(lasting(), wrongEntries()...) {
		for _, c := range tiers(t) {
			var l lender
			given, whole := l.entry(e)
			before, was := slices.Clone(whole), given
			errno := c.Save(given)
			if !l.same() || !slices.Equal(whole, before) || !alike(given, was) {
				t.Errorf("Save of %.40q has changed it", idOf(e))
			}
			l.change()
			overwrite(whole, api.Field{Name: "strange", Value: "strange"})
			if errno != api.OK {
				c.ids()
				continue
			}
			c.ids(e)
			c.finds(asked(), e)
			c.purge(e.Key, 1, api.OK)
			c.ids()
		}
	}
}

// A hidden Id isn't kept in the memory of what was handed in either, nor one that comes into memory by Find.
func TestIdsAreNotKeptInWhatWasHandedIn(t *testing.T) {
	for _, e := range lasting() {
		// The Drop's first step and the one of the next Put are faults.
		c := over(t, 0, 10, 11)
		c.saves(e)
		var l lender
		c.purge(l.text(e.Key), 1, api.ErrFault)
		l.change()
		c.ids()
		given, _ := l.entry(e)
		c.save(given, api.ErrFault)
		l.change()
		c.ids()
		c.saves(e)
		c.ids(e)

		c = over(t, 1<<20)
		c.saves(e)
		c = c.anew(1 << 20)
		var other lender
		key := other.text(e.Key)
		ask, whole := other.fields(asked())
		if got, found := c.Find(key, ask); !found || !alike(got, e) {
			t.Errorf("Find = %s, %t", show(got), found)
		}
		other.change()
		overwrite(whole, api.Field{})
		c.ids(e)
		c.finds(asked(), e)
		c.purge(e.Key, 1, api.OK)
		c.ids()
	}
}

func TestFindAndPurgeLeaveAndReadNothingMore(t *testing.T) {
	for _, c := range tiers(t) {
		c.saves(lasting()...)
		for i, e := range lasting() {
			var l lender
			key := l.text(e.Key)
			ask, whole := l.fields(asked())
			before := slices.Clone(whole)
			got, found := c.Find(key, ask)
			if !found || !alike(got, e) {
				t.Errorf("Find(%.40q) = %s, %t", e.Key, show(got), found)
			}
			apart(t, slices.Concat(l.lentMemories(), memoriesOf(got), []string{memoryOf(whole)})...)
			// Behind the length there is what would match.
			none, wholeNone := l.fields(nil)
			if _, found := c.Find(key, none); found != (e.Vary == "") {
				t.Errorf("Find(%.40q) reads behind the list: %t", e.Key, found)
			}
			n, errno := c.Purge(key)
			if n != 1 || errno != api.OK {
				t.Errorf("Purge(%.40q) = %d, %d", e.Key, n, errno)
			}
			if !l.same() || !slices.Equal(whole, before) || len(wholeNone) != 2 {
				t.Errorf("Find and Purge of %.40q have changed what they were handed", e.Key)
			}
			l.change()
			overwrite(whole, api.Field{Name: "strange"})
			if !alike(got, e) {
				t.Errorf("what Find answered hangs on what it was handed: %s", show(got))
			}
			c.ids(lasting()[i+1:]...)
		}
	}
}

func TestWhatFindAnswersIsItsCallers(t *testing.T) {
	for _, c := range tiers(t) {
		c.saves(lasting()...)
		for _, e := range lasting() {
			one, _ := c.Find(e.Key, asked())
			two, _ := c.Find(e.Key, asked())
			apart(t, slices.Concat(memoriesOf(one), memoriesOf(two))...)
			overwriteEntry(one)
			if !alike(two, e) {
				t.Errorf("two answers share memory: %s", show(two))
			}
			c.finds(asked(), e)
			c.ids(lasting()...)
			// What happens to the cache later doesn't change what was answered.
			young := e
			young.Body = []byte("another")
			c.saves(young)
			c.finds(asked(), young)
			c.saves(e)
			if !alike(two, e) {
				t.Errorf("what Find answered has changed: %s", show(two))
			}
		}
		if c.s != nil {
			c.stored(lasting()...)
		}
	}
}

func TestWhatIdsAnswersIsItsCallers(t *testing.T) {
	for _, c := range tiers(t) {
		c.saves(lasting()...)
		one, two := c.Ids(), c.Ids()
		apart(t, slices.Concat(one, two, []string{memoryOf(one), memoryOf(two)})...)
		for _, id := range one {
			overwriteText(id)
		}
		overwrite(one, "strange")
		if !slices.Equal(two, idsOf(lasting())) {
			t.Errorf("two answers share memory: %.100q", two)
		}
		longer, other := append(two, "appended"), append(two[:len(two):len(two)], "another")
		if longer[len(two)] != "appended" || other[len(two)] != "another" {
			t.Error("answers share spare room")
		}
		c.ids(lasting()...)
		for _, e := range lasting() {
			c.finds(asked(), e)
		}
	}
}

// Nothing of what is in the store is changed through what Find answers, also where memory then has it.
func TestTheStoreIsApart(t *testing.T) {
	for _, e := range lasting() {
		c := over(t, 1<<20)
		c.saves(e)
		c = c.anew(1 << 20)
		for range 3 {
			got, found := c.Find(e.Key, asked())
			if !found || !alike(got, e) {
				t.Errorf("Find = %s, %t", show(got), found)
			}
			kept, _ := c.s.Get(idOf(e))
			apart(t, slices.Concat(memoriesOf(got), memoriesOf(kept))...)
			overwriteEntry(got)
		}
		c.stored(e)
	}
}
