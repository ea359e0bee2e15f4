package lru_test

import (
	"bytes"
	"slices"
	"strings"
	"testing"
	"unsafe"

	"conduit/lru"
)

// P14.5, rule 5: memory

// memoryOf: the list with its spare room, where it lies.
func memoryOf[T any](list []T) string {
	var one T
	return unsafe.String((*byte)(unsafe.Pointer(unsafe.SliceData(list))), cap(list)*int(unsafe.Sizeof(one)))
}

// within: does a byte of one text lie in the memory of the other?
func within(one, other string) bool {
	if one == "" || other == "" {
		return false
	}
	a, b := uintptr(unsafe.Pointer(unsafe.StringData(one))), uintptr(unsafe.Pointer(unsafe.StringData(other)))
	return a < b+uintptr(len(other)) && b < a+uintptr(len(one))
}

// apart: no two of the texts lie in the same memory.
func apart(t *testing.T, texts ...string) {
	t.Helper()
	for i, one := range texts {
		for _, other := range texts[:i] {
			if within(one, other) {
				t.Errorf("%.40q and %.40q lie in the same memory", one, other)
			}
		}
	}
}

// overwrite: fills the list and its spare room.
func overwrite[T any](list []T, with T) {
	list = list[:cap(list)]
	for i := range list {
		list[i] = with
	}
}

// overwriteTexts: fills the memory of texts that were answered, and of their list.
func overwriteTexts(list []string) {
	for _, s := range list {
		overwrite(unsafe.Slice(unsafe.StringData(s), len(s)), '#')
	}
	overwrite(list, "strange")
}

// lent: a text in memory that can be changed, with more bytes behind it, and that memory.
func lent(s string) (string, []byte) {
	memory := append([]byte(s), "behind the length"...)
	return unsafe.String(unsafe.SliceData(memory), len(s)), memory
}

// copied: the texts, each in memory of its own.
func copied(list []string) []string {
	var all []string
	for _, s := range list {
		all = append(all, strings.Clone(s))
	}
	return all
}

func names() []string {
	return []string{"first", "", "second", "x", "thi\x00rd", strings.Repeat("long", 1_000), "last"}
}

// turned: the names, the last one first.
func turned() []string {
	all := names()
	slices.Reverse(all)
	return all
}

// full: a table that has the names, each of size 1, and has room for no more.
func full(t *testing.T) *lru.Table[int] {
	t.Helper()
	table := lru.New[int](len(names()))
	for i, name := range names() {
		wantPut(t, table, name, i, 1)
	}
	return table
}

func TestKeysThatAreHandedInAreNeitherChangedNorKept(t *testing.T) {
	table := lru.New[int](len(names()))
	for i, name := range names() {
		for _, what := range []func(string){
			func(key string) { table.Get(key) },
			func(key string) { table.Put(key, 100, -1) },
			func(key string) { table.Put(key, 101, 1) },
			func(key string) { table.Put(key, i, 1) },
			func(key string) { table.Put(key, 102, len(names())+1) },
			func(key string) { table.Get(key) },
			func(key string) { table.Peek(key) },
		} {
			key, memory := lent(name)
			what(key)
			if string(memory) != name+"behind the length" {
				t.Errorf("the key %.20q has changed: %.40q", name, memory)
			}
			overwrite(memory, '#')
		}
	}
	wantKeys(t, table, len(names()), turned()...)
	for i, name := range names() {
		key, memory := lent(name)
		wantPeek(t, table, key, i)
		wantDrop(t, table, key, true)
		if string(memory) != name+"behind the length" {
			t.Errorf("the key %.20q has changed: %.40q", name, memory)
		}
	}
	wantKeys(t, table, 0)
}

func TestGoneKeysLieInMemoryOfTheirOwn(t *testing.T) {
	table := lru.New[int](1)
	for _, name := range names() {
		key, memory := lent(name)
		wantPut(t, table, key, 1, 1)
		gone, ok := table.Put("another key", 2, 1)
		if !ok || len(gone) != 1 || gone[0] != name {
			t.Fatalf("Put = %.40q, %t", gone, ok)
		}
		apart(t, memoryOf(memory), memoryOf(gone), gone[0])
		overwrite(memory, '#')
		if gone[0] != name {
			t.Errorf("what was answered hangs on the key that was handed in: %.40q", gone)
		}
		wantDrop(t, table, "another key", true)
	}
}

func TestWhatPutAnswersIsItsCallers(t *testing.T) {
	table := full(t)
	shown := table.Keys()
	one, _ := table.Put("new key", 1, 3)
	two, _ := table.Put("newer key", 2, 6)
	if !slices.Equal(one, names()[:3]) || !slices.Equal(two, append(names()[3:], "new key")) {
		t.Fatalf("Put = %.200q and %.200q", one, two)
	}
	after := table.Keys()
	apart(t, slices.Concat(one, two, shown, after, []string{memoryOf(one), memoryOf(two), memoryOf(shown), memoryOf(after)})...)
	overwriteTexts(one)
	if !slices.Equal(two, append(names()[3:], "new key")) || !slices.Equal(shown, turned()) {
		t.Errorf("two answers share memory: %.200q, %.200q", two, shown)
	}
	overwriteTexts(two)
	wantKeys(t, table, 6, "newer key")
	for _, name := range append(names(), "new key") {
		wantNone(t, table, name)
		wantPut(t, table, name, 9, 0)
		wantPeek(t, table, name, 9)
	}
	if len(table.Keys()) != len(names())+2 {
		t.Errorf("Keys() = %.200q", table.Keys())
	}
}

func TestWhatKeysAnswersIsItsCallers(t *testing.T) {
	table := full(t)
	one, two := table.Keys(), table.Keys()
	apart(t, slices.Concat(one, two, []string{memoryOf(one), memoryOf(two)})...)
	overwriteTexts(one)
	if !slices.Equal(two, turned()) {
		t.Errorf("two answers share memory: %.200q", two)
	}
	wantKeys(t, table, len(names()), turned()...)
	want := copied(two)
	// What happens to the table later doesn't change what was answered, nor what was done to an answer the table.
	for i, name := range names() {
		wantPeek(t, table, name, i)
		wantGet(t, table, name, i)
	}
	gone, ok := table.Put("new key", 1, len(names()))
	if !ok || !slices.Equal(gone, names()) {
		t.Errorf("Put = %.200q, %t", gone, ok)
	}
	apart(t, slices.Concat(gone, two, []string{memoryOf(gone), memoryOf(two)})...)
	overwriteTexts(gone)
	if !slices.Equal(two, want) {
		t.Errorf("what Keys answered has changed: %.200q", two)
	}
	wantKeys(t, table, len(names()), "new key")
}

// The list of a Keys has no spare room that a later one fills.
func TestAppendingToAnAnswerChangesNoOther(t *testing.T) {
	table := full(t)
	one := append(table.Keys(), "appended")
	two := append(table.Keys(), "another")
	gone, _ := table.Put("new key", 1, 2)
	gone = append(gone, "more")
	if one[len(one)-1] != "appended" || two[len(two)-1] != "another" || !slices.Equal(gone, []string{"first", "", "more"}) {
		t.Errorf("answers share spare room: %.100q, %.100q, %.100q", one, two, gone)
	}
	wantKeys(t, table, len(names()), append([]string{"new key"}, turned()[:len(names())-2]...)...)
}

// A value is kept and answered as it is

func TestValueIsKeptAsItIs(t *testing.T) {
	lists := lru.New[[]byte](3)
	memory := []byte("value and more")
	wantPutOnly(t, lists, "a", memory[:5])
	peeked, _ := lists.Peek("a")
	got, _ := lists.Get("a")
	for _, v := range [][]byte{peeked, got} {
		if unsafe.SliceData(v) != unsafe.SliceData(memory) || len(v) != 5 || cap(v) != cap(memory) {
			t.Errorf("the list isn't the one that was put: %q", v)
		}
	}
	memory[0] = 'V'
	if got, _ := lists.Get("a"); string(got) != "Value" || !bytes.Equal(memory, []byte("Value and more")) {
		t.Errorf("the list isn't the one that was put: %q, %q", got, memory)
	}
	texts := lru.New[string](3)
	text, bytesOfIt := lent("value")
	wantPutOnly(t, texts, "a", text)
	if got, _ := texts.Get("a"); unsafe.StringData(got) != unsafe.SliceData(bytesOfIt) || got != "value" {
		t.Errorf("the text isn't the one that was put: %q", got)
	}
	numbers := lru.New[*int](3)
	one, same := 1, 1
	wantPutOnly(t, numbers, "a", &one)
	wantPutOnly(t, numbers, "b", &same)
	wantGet(t, numbers, "a", &one)
	wantGet(t, numbers, "b", &same)
	*mustGet(t, numbers, "a") = 7
	if one != 7 || same != 1 {
		t.Errorf("the values behind the pointers: %d, %d", one, same)
	}
}

func TestValueThatIsAMapIsKeptAsItIs(t *testing.T) {
	maps := lru.New[map[string]int](1)
	counts := map[string]int{}
	wantPutOnly(t, maps, "a", counts)
	counts["x"] = 1
	got := mustGet(t, maps, "a")
	got["y"] = 2
	if len(got) != 2 || len(counts) != 2 {
		t.Errorf("the map isn't the one that was put: %v, %v", got, counts)
	}
}

// A structure is a value: what is answered is a copy of it, and the table's one stays.
func TestValueThatIsAStructureIsTheTablesOwn(t *testing.T) {
	type pair struct{ a, b int }
	pairs := lru.New[pair](1)
	v := pair{1, 2}
	wantPut(t, pairs, "a", v, 1)
	v.a = 9
	got := mustGet(t, pairs, "a")
	got.b = 9
	wantPeek(t, pairs, "a", pair{1, 2})
}

func mustGet[V any](t *testing.T, table *lru.Table[V], key string) V {
	t.Helper()
	v, ok := table.Get(key)
	if !ok {
		t.Fatalf("Get(%q) finds nothing", key)
	}
	return v
}
