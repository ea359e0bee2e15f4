package store_test

import (
	"bytes"
	"slices"
	"strings"
	"testing"
	"unsafe"

	"conduit/api"
	"conduit/disk"
	"conduit/store"
)

// P13.6, rule 5: memory

// memoryOf: the list with its spare room, where it lies.
func memoryOf[T any](list []T) string {
	var one T
	return unsafe.String((*byte)(unsafe.Pointer(unsafe.SliceData(list))), cap(list)*int(unsafe.Sizeof(one)))
}

// memoriesOf: where the parts of an entry lie.
func memoriesOf(e api.Entry) []string {
	all := []string{e.Key, e.Vary, e.Resp.Reason, memoryOf(e.Resp.Fields), memoryOf(e.Body)}
	for _, f := range e.Resp.Fields {
		all = append(all, f.Name, f.Value)
	}
	return all
}

// within: does a byte of one text lie in the memory of the other?
func within(one, other string) bool {
	if one == "" || other == "" {
		return false
	}
	a, b := uintptr(unsafe.Pointer(unsafe.StringData(one))), uintptr(unsafe.Pointer(unsafe.StringData(other)))
	return a < b+uintptr(len(other)) && b < a+uintptr(len(one))
}

// apart: no two of the texts lie in the same memory.
func apart(t *testing.T, texts ...string) {
	t.Helper()
	for i, one := range texts {
		for _, other := range texts[:i] {
			if within(one, other) {
				t.Errorf("%.40q and %.40q lie in the same memory", one, other)
			}
		}
	}
}

// overwrite: fills the list and its spare room.
func overwrite[T any](list []T, with T) {
	list = list[:cap(list)]
	for i := range list {
		list[i] = with
	}
}

// overwriteText: fills the memory of a text that was answered, which lies in memory of its own.
func overwriteText(s string) {
	overwrite(unsafe.Slice(unsafe.StringData(s), len(s)), '#')
}

// lender: memory of which each byte can be changed, with what was put there.
type lender struct {
	memories [][]byte
	were     []string
}

// text: the text in memory that can be changed, with more bytes behind it.
func (l *lender) text(s string) string {
	b := l.bytes([]byte(s))
	return unsafe.String(unsafe.SliceData(b), len(b))
}

func (l *lender) bytes(b []byte) []byte {
	memory := append(bytes.Clone(b), "behind the length"...)
	l.memories, l.were = append(l.memories, memory), append(l.were, string(memory))
	return memory[:len(b)]
}

// entry: the entry in such memory.
func (l *lender) entry(e api.Entry) api.Entry {
	e.Key, e.Vary, e.Resp.Reason, e.Body = l.text(e.Key), l.text(e.Vary), l.text(e.Resp.Reason), l.bytes(e.Body)
	var list []api.Field
	for _, f := range e.Resp.Fields {
		list = append(list, api.Field{Name: l.text(f.Name), Value: l.text(f.Value)})
	}
	e.Resp.Fields = list
	return e
}

func (l *lender) same() bool {
	for i, memory := range l.memories {
		if string(memory) != l.were[i] {
			return false
		}
	}
	return true
}

func (l *lender) change() {
	for _, memory := range l.memories {
		overwrite(memory, '#')
	}
}

// lasting: entries of which each text has no byte or two and more: a text of one byte is the same memory everywhere, which nobody can change.
func lasting() []api.Entry {
	full := entry("http://ex.com/", "lang=de", "the body")
	full.Resp.Fields = []api.Field{{Name: "First", Value: "value"}, {Name: "Second", Value: ""}, {Name: "First", Value: "value"}}
	same := entry("same", "same", "same")
	same.Resp = api.Response{Status: 200, Reason: "same"}
	empty := api.Entry{Key: "key", Resp: api.Response{Status: 204, Minor: 1}}
	long := entry(strings.Repeat("k", 2_000), strings.Repeat("v", 2_095), strings.Repeat("x", 65_536))
	long.Resp.Fields = nil
	return []api.Entry{full, same, empty, long}
}

// withRoom: the entry with memory behind the length of its list of fields, and that memory.
func withRoom(e api.Entry) (api.Entry, []api.Field) {
	memory := append(slices.Clone(e.Resp.Fields), api.Field{Name: "behind", Value: "it"}, api.Field{Name: "and", Value: "that"})
	e.Resp.Fields = memory[:len(e.Resp.Fields)]
	return e, memory
}

func TestPutLeavesAndKeepsNothing(t *testing.T) {
	for _, fails := range [][]int{nil, {4}, {5}, {6}, {7}, {8}, {9}} {
		for _, e := range slices.Concat(lasting(), wrongEntries(), longIds()) {
			var l lender
			given, memory := withRoom(l.entry(e))
			was := slices.Clone(memory)
			d := made(t, nil, 1<<20, fails, -1)
			s := opened(t, d, 3)
			errno := s.Put(given)
			if !l.same() || !slices.Equal(memory, was) || !alike(given, e) {
				t.Errorf("faults at %v: Put of %.40q has changed it", fails, idOf(e))
			}
			before, ids := shown(seen(d)), s.Ids()
			l.change()
			overwrite(memory, api.Field{Name: "strange", Value: "strange"})
			if shown(seen(d)) != before || !slices.Equal(s.Ids(), ids) {
				t.Errorf("faults at %v: what Put of %.40q has stored hangs on its memory", fails, idOf(e))
			}
			if fails == nil && errno == api.OK {
				wantEntries(t, s, e)
				wantPut(t, d, s, e, api.OK, 7)
				wantEntries(t, s, e)
				wantDrop(t, d, s, idOf(e), api.OK, 3)
				wantEntries(t, s)
			}
		}
	}
}

func TestDropAndGetLeaveAndKeepNothing(t *testing.T) {
	for _, fails := range [][]int{nil, {1}, {2}, {3}} {
		list := lasting()
		for i, e := range list {
			d := made(t, filed(many(len(list), list...), list...), 1<<20, fails, -1)
			s := opened(t, d, 9)
			var l lender
			got, found := s.Get(l.text(idOf(e)))
			l.change()
			if !found || !alike(got, e) {
				t.Errorf("Get(%.40q) = %.200v, %t", idOf(e), got, found)
			}
			l = lender{}
			errno := s.Drop(l.text(idOf(e)))
			if !l.same() {
				t.Errorf("Drop(%.40q) has changed it", idOf(e))
			}
			before := shown(seen(d))
			l.change()
			left := slices.Delete(slices.Clone(list), i, i+1)
			if fails != nil && fails[0] == 1 {
				left = list
			}
			if (errno != api.OK) != (fails != nil && fails[0] < 3) || shown(seen(d)) != before {
				t.Errorf("faults at %v: Drop(%.40q) = %d", fails, idOf(e), errno)
			}
			wantEntries(t, s, left...)
			wantOpen(t, d, 9, strayOf(fails), left...)
		}
	}
}

// strayOf: how many files lie there behind a Drop with these faults, that don't count.
func strayOf(fails []int) int {
	if fails != nil && fails[0] == 3 {
		return 1
	}
	return 0
}

func TestWhatGetAnswersIsItsCallers(t *testing.T) {
	for _, e := range lasting() {
		d := plain(t)
		s := opened(t, d, 3)
		var l lender
		wantPut(t, d, s, l.entry(e), api.OK, 6)
		one, _ := s.Get(idOf(e))
		two, _ := s.Get(idOf(e))
		held, _ := d.Read("o/00/00")
		memories := slices.Concat(memoriesOf(one), memoriesOf(two), []string{memoryOf(held)})
		for _, memory := range l.memories {
			memories = append(memories, memoryOf(memory))
		}
		apart(t, memories...)
		overwrite(one.Body, '#')
		overwriteText(one.Key)
		overwriteText(one.Vary)
		overwrite(one.Resp.Fields, api.Field{Name: "strange", Value: "strange"})
		if !alike(two, e) || !l.same() {
			t.Errorf("two answers for %.40q share memory", idOf(e))
		}
		wantEntries(t, s, e)
		// What happens to the store later doesn't change what was answered.
		other := e
		other.Body = []byte("another")
		wantPut(t, d, s, other, api.OK, 7)
		wantDrop(t, d, s, idOf(e), api.OK, 3)
		if !alike(two, e) {
			t.Errorf("what Get(%.40q) answered has changed", idOf(e))
		}
	}
}

func TestWhatIdsAnswersIsItsCallers(t *testing.T) {
	list := lasting()
	var l lender
	log := l.bytes(logOf(many(len(list), list...)...))
	files := filed(nil, list...)
	files[0].Data = log
	for _, s := range []*store.Store{opened(t, made(t, files, 1<<20, nil, -1), 9), stored(t, plain(t), list...)} {
		one, two := s.Ids(), s.Ids()
		apart(t, slices.Concat(one, two, []string{memoryOf(one), memoryOf(two), memoryOf(log)})...)
		want := slices.Clone(two)
		for i := range want {
			want[i] = strings.Clone(want[i])
		}
		for _, id := range one {
			overwriteText(id)
		}
		overwrite(one, "strange")
		if !slices.Equal(two, want) {
			t.Errorf("two answers share memory: %.100q", two)
		}
		wantEntries(t, s, list...)
		wantEmpty(t, s, list)
		if !slices.Equal(two, want) {
			t.Errorf("what Ids answered has changed: %.100q", two)
		}
	}
	if !l.same() {
		t.Error("the bytes of the log have changed")
	}
}

// stored: a store over a disk, into which the entries were put.
func stored(t *testing.T, d *disk.Disk, list ...api.Entry) *store.Store {
	t.Helper()
	s := opened(t, d, 9)
	for _, e := range list {
		wantPut(t, d, s, e, api.OK, 6)
	}
	return s
}

// wantEmpty: the store has nothing any more when all entries are dropped.
func wantEmpty(t *testing.T, s *store.Store, list []api.Entry) {
	t.Helper()
	for _, e := range list {
		if errno := s.Drop(idOf(e)); errno != api.OK {
			t.Errorf("Drop(%.40q) = %d", idOf(e), errno)
		}
	}
	if got := s.Ids(); len(got) != 0 {
		t.Errorf("Ids() = %.100q", got)
	}
}

func TestWhatPathAnswersIsItsCallers(t *testing.T) {
	for _, no := range []int{0, 1, 64, slotCap - 1} {
		one, two := store.Path(no), store.Path(no)
		apart(t, one, two)
		want := nameOf(no)
		overwriteText(one)
		if two != want || store.Path(no) != want {
			t.Errorf("Path(%d) = %q, %q; want %q", no, two, store.Path(no), want)
		}
	}
}
