package lru_test

import (
	"fmt"
	"math"
	"slices"
	"strconv"
	"strings"
	"testing"

	"conduit/lru"
)

// mostRoom: the greatest room, as the chapter says it.
const mostRoom = 1_073_741_824

// row: a key that is put, with its value and its size.
type row struct {
	key  string
	v    int
	size int
}

// filled: a table into which the rows were put, one after the other, of which none had to go.
func filled(t *testing.T, room int, rows ...row) *lru.Table[int] {
	t.Helper()
	table := lru.New[int](room)
	for _, r := range rows {
		wantPut(t, table, r.key, r.v, r.size)
	}
	return table
}

// wantPut: Put answers true, and that just these keys went, in this order.
func wantPut[V any](t *testing.T, table *lru.Table[V], key string, v V, size int, gone ...string) {
	t.Helper()
	if got, ok := table.Put(key, v, size); !ok || !slices.Equal(got, gone) {
		t.Errorf("Put(%.20q, %v, %d) = %.200q, %t; want %.200q, true", key, v, size, got, ok, gone)
	}
}

// wantNoPut: Put answers nothing and false, and the table is as it was.
func wantNoPut[V any](t *testing.T, table *lru.Table[V], key string, v V, size int) {
	t.Helper()
	keys, used := table.Keys(), table.Used()
	if gone, ok := table.Put(key, v, size); ok || len(gone) != 0 {
		t.Errorf("Put(%.20q, %v, %d) = %.200q, %t; want nothing, false", key, v, size, gone, ok)
	}
	wantKeys(t, table, used, keys...)
}

// wantGet: Get answers this value.
func wantGet[V comparable](t *testing.T, table *lru.Table[V], key string, want V) {
	t.Helper()
	if v, ok := table.Get(key); v != want || !ok {
		t.Errorf("Get(%.20q) = %v, %t; want %v, true", key, v, ok, want)
	}
}

// wantPeek: Peek answers this value, and the table is as it was.
func wantPeek[V comparable](t *testing.T, table *lru.Table[V], key string, want V) {
	t.Helper()
	keys, used := table.Keys(), table.Used()
	if v, ok := table.Peek(key); v != want || !ok {
		t.Errorf("Peek(%.20q) = %v, %t; want %v, true", key, v, ok, want)
	}
	wantKeys(t, table, used, keys...)
}

// wantNone: the key has no value for any call, and none of them changes the table.
func wantNone[V comparable](t *testing.T, table *lru.Table[V], key string) {
	t.Helper()
	keys, used := table.Keys(), table.Used()
	var zero V
	if v, ok := table.Get(key); v != zero || ok {
		t.Errorf("Get(%.20q) = %v, %t; want nothing", key, v, ok)
	}
	wantKeys(t, table, used, keys...)
	if v, ok := table.Peek(key); v != zero || ok {
		t.Errorf("Peek(%.20q) = %v, %t; want nothing", key, v, ok)
	}
	wantKeys(t, table, used, keys...)
	wantDrop(t, table, key, false)
	wantKeys(t, table, used, keys...)
}

func wantDrop[V any](t *testing.T, table *lru.Table[V], key string, want bool) {
	t.Helper()
	if got := table.Drop(key); got != want {
		t.Errorf("Drop(%.20q) = %t; want %t", key, got, want)
	}
}

// wantKeys: the table has just these keys, the one used last first, and that sum of sizes.
func wantKeys[V any](t *testing.T, table *lru.Table[V], used int, keys ...string) {
	t.Helper()
	if got := table.Keys(); !slices.Equal(got, keys) {
		t.Errorf("Keys() = %.200q; want %.200q", got, keys)
	}
	if got := table.Used(); got != used {
		t.Errorf("Used() = %d; want %d", got, used)
	}
}

// The chapter's examples

func TestExamples(t *testing.T) {
	table := lru.New[int](10)
	wantPut(t, table, "a", 1, 4)
	wantPut(t, table, "b", 2, 4)
	wantGet(t, table, "a", 1)
	wantPut(t, table, "c", 3, 4, "b")
	wantKeys(t, table, 8, "c", "a")
	wantNoPut(t, table, "d", 4, 11)
	wantPut(t, table, "a", 5, 10, "c")
	wantKeys(t, table, 10, "a")
	wantPeek(t, table, "a", 5)
	wantNone(t, table, "b")
	wantNone(t, table, "c")
	wantNone(t, table, "d")
}

// P14.1

func TestNewIsEmpty(t *testing.T) {
	for _, room := range []int{math.MinInt, -1, 0, 1, 10, mostRoom, mostRoom + 1, math.MaxInt} {
		table := lru.New[int](room)
		wantKeys(t, table, 0)
		wantNone(t, table, "")
		wantNone(t, table, "a")
		wantKeys(t, table, 0)
	}
}

func TestNewHasItsRoom(t *testing.T) {
	for _, c := range []struct{ room, want int }{
		{math.MinInt, 0}, {-mostRoom, 0}, {-5, 0}, {-1, 0}, {0, 0}, {1, 1}, {2, 2}, {10, 10}, {1 << 20, 1 << 20},
		{mostRoom - 1, mostRoom - 1}, {mostRoom, mostRoom}, {mostRoom + 1, mostRoom}, {1 << 31, mostRoom}, {1 << 32, mostRoom}, {math.MaxInt, mostRoom},
	} {
		table := lru.New[int](c.room)
		wantNoPut(t, table, "a", 1, c.want+1)
		wantPut(t, table, "a", 2, c.want)
		wantNoPut(t, table, "a", 3, c.want+1)
		wantNoPut(t, table, "b", 4, c.want+1)
		wantKeys(t, table, c.want, "a")
		wantPeek(t, table, "a", 2)
		wantPut(t, table, "b", 5, 0)
		wantKeys(t, table, c.want, "b", "a")
	}
}

func TestRoomIsSharedByAllValues(t *testing.T) {
	for _, room := range []int{2, 3, 10, mostRoom - 1, mostRoom} {
		table := filled(t, room, row{"a", 1, 1}, row{"b", 2, room - 1})
		wantKeys(t, table, room, "b", "a")
		wantPut(t, table, "c", 3, 1, "a")
		wantKeys(t, table, room, "c", "b")
		wantPut(t, table, "d", 4, 1, "b")
		wantKeys(t, table, 2, "d", "c")
	}
	table := filled(t, mostRoom+1, row{"a", 1, 1}, row{"b", 2, mostRoom - 1})
	wantPut(t, table, "c", 3, 1, "a")
}

func TestTablesHaveNothingInCommon(t *testing.T) {
	one, two := filled(t, 10, row{"a", 1, 4}, row{"b", 2, 4}), filled(t, 10, row{"a", 3, 10})
	wantPut(t, two, "b", 4, 10, "a")
	wantKeys(t, one, 8, "b", "a")
	wantPeek(t, one, "b", 2)
	wantDrop(t, one, "a", true)
	wantKeys(t, one, 4, "b")
	wantKeys(t, two, 10, "b")
	wantPeek(t, two, "b", 4)
}

// P14.2

func TestPutRefusesSizesOutOfTheRoom(t *testing.T) {
	for _, room := range []int{-1, 0, 1, 10, mostRoom, mostRoom + 1} {
		most := min(max(room, 0), mostRoom)
		for _, size := range []int{math.MinInt, math.MinInt + 1, -mostRoom, -2, -1, most + 1, most + 2, 2*most + 1, 1 << 62, math.MaxInt - 1, math.MaxInt} {
			wantNoPut(t, lru.New[int](room), "a", 1, size)
			wantNoPut(t, lru.New[int](room), "", 1, size)
			// What is there stays as it is, also under that key.
			for _, used := range []int{0, most} {
				table := filled(t, room, row{"a", 1, used}, row{"b", 2, 0}, row{"", 3, 0})
				for _, key := range []string{"a", "b", "", "c"} {
					wantNoPut(t, table, key, 9, size)
				}
				wantKeys(t, table, used, "", "b", "a")
				wantPeek(t, table, "a", 1)
				wantPeek(t, table, "b", 2)
				wantPeek(t, table, "", 3)
				wantNone(t, table, "c")
				wantDrop(t, table, "a", true)
				wantKeys(t, table, 0, "", "b")
			}
		}
	}
}

func TestPutOfANewKey(t *testing.T) {
	for _, c := range []struct {
		size int
		gone []string
		used int
		keys []string
	}{
		{0, nil, 9, []string{"n", "c", "b", "a"}},
		{1, nil, 10, []string{"n", "c", "b", "a"}},
		{2, []string{"a"}, 9, []string{"n", "c", "b"}},
		{3, []string{"a"}, 10, []string{"n", "c", "b"}},
		{4, []string{"a", "b"}, 8, []string{"n", "c"}},
		{6, []string{"a", "b"}, 10, []string{"n", "c"}},
		{7, []string{"a", "b", "c"}, 7, []string{"n"}},
		{10, []string{"a", "b", "c"}, 10, []string{"n"}},
	} {
		table := filled(t, 10, row{"a", 1, 2}, row{"b", 2, 3}, row{"c", 3, 4})
		wantPut(t, table, "n", 4, c.size, c.gone...)
		wantKeys(t, table, c.used, c.keys...)
		wantPeek(t, table, "n", 4)
		for i, key := range []string{"a", "b", "c"} {
			if slices.Contains(c.gone, key) {
				wantNone(t, table, key)
			} else {
				wantPeek(t, table, key, i+1)
			}
		}
	}
}

// A key that is there: its size isn't counted any more, and it isn't told, wherever it stands.
func TestPutOfAKeyThatIsThere(t *testing.T) {
	for _, c := range []struct {
		key  string
		size int
		gone []string
		used int
		keys []string
	}{
		{"a", 0, nil, 7, []string{"a", "c", "b"}},
		{"a", 1, nil, 8, []string{"a", "c", "b"}},
		{"a", 2, nil, 9, []string{"a", "c", "b"}},
		{"a", 3, nil, 10, []string{"a", "c", "b"}},
		{"a", 4, []string{"b"}, 8, []string{"a", "c"}},
		{"a", 6, []string{"b"}, 10, []string{"a", "c"}},
		{"a", 7, []string{"b", "c"}, 7, []string{"a"}},
		{"a", 10, []string{"b", "c"}, 10, []string{"a"}},
		{"b", 0, nil, 6, []string{"b", "c", "a"}},
		{"b", 2, nil, 8, []string{"b", "c", "a"}},
		{"b", 3, nil, 9, []string{"b", "c", "a"}},
		{"b", 4, nil, 10, []string{"b", "c", "a"}},
		{"b", 5, []string{"a"}, 9, []string{"b", "c"}},
		{"b", 6, []string{"a"}, 10, []string{"b", "c"}},
		{"b", 7, []string{"a", "c"}, 7, []string{"b"}},
		{"b", 10, []string{"a", "c"}, 10, []string{"b"}},
		{"c", 0, nil, 5, []string{"c", "b", "a"}},
		{"c", 3, nil, 8, []string{"c", "b", "a"}},
		{"c", 4, nil, 9, []string{"c", "b", "a"}},
		{"c", 5, nil, 10, []string{"c", "b", "a"}},
		{"c", 6, []string{"a"}, 9, []string{"c", "b"}},
		{"c", 8, []string{"a", "b"}, 8, []string{"c"}},
		{"c", 10, []string{"a", "b"}, 10, []string{"c"}},
	} {
		table := filled(t, 10, row{"a", 1, 2}, row{"b", 2, 3}, row{"c", 3, 4})
		wantPut(t, table, c.key, 9, c.size, c.gone...)
		wantKeys(t, table, c.used, c.keys...)
		wantPeek(t, table, c.key, 9)
		// The old value is away for good: behind the new one's Drop there is none.
		wantDrop(t, table, c.key, true)
		wantKeys(t, table, c.used-c.size, c.keys[1:]...)
		wantNone(t, table, c.key)
	}
}

func TestPutOfTheKeyThatFillsTheRoom(t *testing.T) {
	for _, room := range []int{1, 2, 10, mostRoom} {
		for _, size := range []int{0, 1, room - 1, room} {
			table := filled(t, room, row{"a", 1, room})
			wantPut(t, table, "a", 2, size)
			wantKeys(t, table, size, "a")
			wantPeek(t, table, "a", 2)
			wantPut(t, table, "a", 3, room)
			wantKeys(t, table, room, "a")
			wantPeek(t, table, "a", 3)
		}
		table := filled(t, room, row{"a", 1, room})
		wantPut(t, table, "b", 2, room, "a")
		wantKeys(t, table, room, "b")
		wantPut(t, table, "a", 3, 1, "b")
		wantKeys(t, table, 1, "a")
	}
}

func TestPutIsAUse(t *testing.T) {
	table := filled(t, 3, row{"a", 1, 1}, row{"b", 2, 1}, row{"c", 3, 1})
	wantPut(t, table, "a", 4, 1)
	wantKeys(t, table, 3, "a", "c", "b")
	wantPut(t, table, "d", 5, 1, "b")
	wantPut(t, table, "e", 6, 1, "c")
	wantPut(t, table, "f", 7, 1, "a")
	wantKeys(t, table, 3, "f", "e", "d")
}

func TestPutOfTheSameValueIsAUseToo(t *testing.T) {
	table := filled(t, 2, row{"a", 1, 1}, row{"b", 2, 1})
	wantPut(t, table, "a", 1, 1)
	wantPut(t, table, "c", 3, 1, "b")
	wantKeys(t, table, 2, "c", "a")
}

func TestGoneOnesAreToldByTheirUse(t *testing.T) {
	names := strings.Split("z y x a b c m", " ")
	table := lru.New[int](len(names))
	for i, name := range names {
		wantPut(t, table, name, i, 1)
	}
	wantGet(t, table, "y", 1)
	wantGet(t, table, "z", 0)
	wantPut(t, table, "b", 8, 1)
	wantGet(t, table, "x", 2)
	wantPut(t, table, "new", 9, len(names), "a", "c", "m", "y", "z", "b", "x")
	wantKeys(t, table, len(names), "new")
}

// Size 0

func TestValuesOfSizeNoughtInAFullTable(t *testing.T) {
	table := filled(t, 10, row{"a", 1, 10})
	for i := range 5 {
		wantPut(t, table, "n"+strconv.Itoa(i), i, 0)
	}
	wantKeys(t, table, 10, "n4", "n3", "n2", "n1", "n0", "a")
	wantGet(t, table, "n1", 1)
	// What was used longest ago is enough: the others take no room.
	wantPut(t, table, "b", 2, 1, "a")
	wantKeys(t, table, 1, "b", "n1", "n4", "n3", "n2", "n0")
	// They go by their turn all the same, where one that takes room was used later.
	wantPut(t, table, "c", 3, 10, "n0", "n2", "n3", "n4", "n1", "b")
	wantKeys(t, table, 10, "c")
}

func TestValuesOfSizeNoughtGoNoFurtherThanNeeded(t *testing.T) {
	table := filled(t, 4, row{"n", 0, 0}, row{"a", 1, 2}, row{"m", 2, 0}, row{"b", 3, 2}, row{"o", 4, 0})
	wantPut(t, table, "c", 5, 1, "n", "a")
	wantKeys(t, table, 3, "c", "o", "b", "m")
	wantPut(t, table, "d", 6, 1)
	wantPut(t, table, "p", 7, 0)
	wantKeys(t, table, 4, "p", "d", "c", "o", "b", "m")
	wantPut(t, table, "m", 8, 1, "b")
	wantKeys(t, table, 3, "m", "p", "d", "c", "o")
}

func TestTableWithoutRoom(t *testing.T) {
	for _, room := range []int{0, -1, math.MinInt} {
		table := lru.New[int](room)
		var keys []string
		for i := range 100 {
			key := "k" + strconv.Itoa(i)
			wantPut(t, table, key, i, 0)
			keys = append([]string{key}, keys...)
		}
		wantNoPut(t, table, "k0", 1, 1)
		wantKeys(t, table, 0, keys...)
		wantGet(t, table, "k0", 0)
		wantKeys(t, table, 0, append([]string{"k0"}, keys[:99]...)...)
		wantDrop(t, table, "k0", true)
		wantKeys(t, table, 0, keys[:99]...)
	}
}

// Keys

func TestEmptyKeyIsAKey(t *testing.T) {
	table := lru.New[int](3)
	wantNone(t, table, "")
	wantPut(t, table, "", 7, 1)
	wantKeys(t, table, 1, "")
	wantPeek(t, table, "", 7)
	wantPut(t, table, "a", 8, 1)
	wantPut(t, table, "b", 9, 1)
	wantGet(t, table, "", 7)
	wantKeys(t, table, 3, "", "b", "a")
	wantPut(t, table, "", 6, 2, "a")
	wantKeys(t, table, 3, "", "b")
	wantPut(t, table, "c", 5, 2, "b", "")
	wantNone(t, table, "")
	wantPut(t, table, "", 4, 0)
	wantDrop(t, table, "", true)
	wantDrop(t, table, "", false)
	wantKeys(t, table, 2, "c")
}

func TestKeysAreHeldAgainstEachOtherByteByByte(t *testing.T) {
	names := []string{"", "a", "A", "a ", " a", "a\x00", "\x00", "\x00\x00", "\xff", "\xfe", "\xc3\xa4", "a\xcc\x88", "\n", "\r\n", strings.Repeat("x", 70_000), strings.Repeat("x", 70_001)}
	table := lru.New[int](len(names))
	for i, name := range names {
		wantPut(t, table, name, i+1, 1)
	}
	turned := slices.Clone(names)
	slices.Reverse(turned)
	wantKeys(t, table, len(names), turned...)
	for i, name := range names {
		wantPeek(t, table, name, i+1)
		wantGet(t, table, name, i+1)
	}
	wantKeys(t, table, len(names), turned...)
	wantPut(t, table, "new", 0, len(names), names...)
}

// P14.3

func TestGetIsAUse(t *testing.T) {
	for i, c := range []struct {
		keys []string
		gone string
	}{
		{[]string{"a", "c", "b"}, "b"},
		{[]string{"b", "c", "a"}, "a"},
		{[]string{"c", "b", "a"}, "a"},
	} {
		table := filled(t, 3, row{"a", 0, 1}, row{"b", 1, 1}, row{"c", 2, 1})
		wantGet(t, table, c.keys[0], i)
		wantKeys(t, table, 3, c.keys...)
		wantGet(t, table, c.keys[0], i)
		wantKeys(t, table, 3, c.keys...)
		wantPut(t, table, "d", 3, 1, c.gone)
	}
}

func TestPeekIsNoUse(t *testing.T) {
	for i, key := range []string{"a", "b", "c"} {
		table := filled(t, 3, row{"a", 0, 1}, row{"b", 1, 1}, row{"c", 2, 1})
		wantPeek(t, table, key, i)
		wantPeek(t, table, key, i)
		wantKeys(t, table, 3, "c", "b", "a")
		wantPut(t, table, "d", 3, 1, "a")
		wantPut(t, table, "e", 4, 2, "b", "c")
	}
}

func TestGetAndPeekOfNoKeyAreNoUse(t *testing.T) {
	table := filled(t, 3, row{"a", 0, 1}, row{"b", 1, 1}, row{"c", 2, 1})
	for _, key := range []string{"", "A", "aa", "d", strings.Repeat("a", 10_000)} {
		wantNone(t, table, key)
	}
	wantPut(t, table, "d", 3, 1, "a")
	wantNone(t, table, "a")
	wantDrop(t, table, "b", true)
	wantNone(t, table, "b")
	wantKeys(t, table, 2, "d", "c")
}

func TestGetOfTheOnlyKey(t *testing.T) {
	table := filled(t, 10, row{"a", 1, 4})
	for range 3 {
		wantGet(t, table, "a", 1)
		wantKeys(t, table, 4, "a")
	}
	wantDrop(t, table, "a", true)
	wantKeys(t, table, 0)
}

// A value that is its type's zero value is a value too.
func TestZeroValueIsAValue(t *testing.T) {
	numbers, texts, lists := lru.New[int](1), lru.New[string](1), lru.New[[]byte](1)
	wantPut(t, numbers, "a", 0, 1)
	wantGet(t, numbers, "a", 0)
	wantPeek(t, numbers, "a", 0)
	wantPut(t, texts, "a", "", 1)
	wantGet(t, texts, "a", "")
	wantPut(t, lists, "a", nil, 1)
	if v, ok := lists.Get("a"); v != nil || !ok {
		t.Errorf("Get = %v, %t; want nil, true", v, ok)
	}
	wantDrop(t, lists, "a", true)
	if v, ok := lists.Get("a"); v != nil || ok {
		t.Errorf("Get = %v, %t; want nothing", v, ok)
	}
}

// P14.4

func TestDrop(t *testing.T) {
	for _, c := range []struct {
		key  string
		used int
		keys []string
	}{
		{"a", 7, []string{"c", "b"}},
		{"b", 6, []string{"c", "a"}},
		{"c", 5, []string{"b", "a"}},
	} {
		table := filled(t, 9, row{"a", 1, 2}, row{"b", 2, 3}, row{"c", 3, 4})
		wantDrop(t, table, "d", false)
		wantDrop(t, table, "", false)
		wantKeys(t, table, 9, "c", "b", "a")
		wantDrop(t, table, c.key, true)
		wantKeys(t, table, c.used, c.keys...)
		wantDrop(t, table, c.key, false)
		wantNone(t, table, c.key)
		wantKeys(t, table, c.used, c.keys...)
		// Its room is free: none has to go for the new one.
		wantPut(t, table, "n", 4, 9-c.used)
		wantKeys(t, table, 9, append([]string{"n"}, c.keys...)...)
		// And where some have to go it isn't told any more.
		wantPut(t, table, "m", 5, 9, c.keys[1], c.keys[0], "n")
	}
}

func TestDropOfAllAndFillingAnew(t *testing.T) {
	table := lru.New[int](6)
	for turn := range 3 {
		for i, key := range []string{"a", "b", "c"} {
			wantPut(t, table, key, turn+i, i+1)
		}
		wantKeys(t, table, 6, "c", "b", "a")
		wantDrop(t, table, "b", true)
		wantDrop(t, table, "a", true)
		wantDrop(t, table, "c", true)
		wantKeys(t, table, 0)
		for _, key := range []string{"a", "b", "c"} {
			wantNone(t, table, key)
		}
	}
}

func TestDroppedKeyThatIsPutAgainIsUsedLast(t *testing.T) {
	table := filled(t, 3, row{"a", 1, 1}, row{"b", 2, 1}, row{"c", 3, 1})
	wantDrop(t, table, "a", true)
	wantPut(t, table, "a", 4, 1)
	wantKeys(t, table, 3, "a", "c", "b")
	wantPeek(t, table, "a", 4)
	wantPut(t, table, "d", 5, 1, "b")
}

func TestKeysAndUsedChangeNothing(t *testing.T) {
	table := filled(t, 3, row{"a", 1, 1}, row{"b", 2, 1}, row{"c", 3, 1})
	for range 3 {
		table.Keys()
		table.Used()
	}
	wantKeys(t, table, 3, "c", "b", "a")
	wantPut(t, table, "d", 4, 2, "a", "b")
}

// Values of several types

func TestTablesOfSeveralTypesBesideOneAnother(t *testing.T) {
	type pair struct {
		name  string
		count [2]int
	}
	numbers, texts, pairs := lru.New[int](2), lru.New[string](2), lru.New[pair](2)
	empties, anything, floats := lru.New[struct{}](2), lru.New[any](2), lru.New[float64](2)
	for i := range 4 {
		key := "k" + strconv.Itoa(i)
		var gone []string
		if i > 1 {
			gone = []string{"k" + strconv.Itoa(i-2)}
		}
		wantPut(t, numbers, key, i, 1, gone...)
		wantPut(t, texts, key, fmt.Sprint("v", i), 1, gone...)
		wantPut(t, pairs, key, pair{key, [2]int{i, i * i}}, 1, gone...)
		wantPut(t, empties, key, struct{}{}, 1, gone...)
		wantPut(t, anything, key, any(i), 1, gone...)
		wantPut(t, floats, key, float64(i)/2, 1, gone...)
	}
	wantGet(t, numbers, "k2", 2)
	wantGet(t, texts, "k3", "v3")
	wantDrop(t, pairs, "k3", true)
	wantGet(t, anything, "k2", any(2))
	wantKeys(t, numbers, 2, "k2", "k3")
	wantKeys(t, texts, 2, "k3", "k2")
	wantKeys(t, pairs, 1, "k2")
	wantKeys(t, empties, 2, "k3", "k2")
	wantKeys(t, anything, 2, "k2", "k3")
	wantPeek(t, texts, "k2", "v2")
	wantPeek(t, pairs, "k2", pair{"k2", [2]int{2, 4}})
	wantPeek(t, empties, "k3", struct{}{})
	wantPeek(t, floats, "k3", 1.5)
	wantNone(t, numbers, "k1")
	wantNone(t, texts, "k1")
	wantNone(t, pairs, "k3")
	wantNone(t, empties, "k1")
	wantNone(t, anything, "k1")
	wantNone(t, floats, "k1")
}

func TestTablesOfFunctionsAndTables(t *testing.T) {
	functions := lru.New[func() int](2)
	count := 0
	wantPutOnly(t, functions, "count", func() int { count++; return count })
	if f, ok := functions.Get("count"); !ok || f() != 1 || f() != 2 || count != 2 {
		t.Errorf("the function isn't the one that was put: %d", count)
	}
	if f, ok := functions.Get("none"); ok || f != nil {
		t.Error("a function where there is none")
	}
	tables := lru.New[*lru.Table[string]](1)
	inner := lru.New[string](1)
	wantPut(t, tables, "a", inner, 1)
	wantPut(t, inner, "a", "x", 1)
	if got, ok := tables.Get("a"); got != inner || !ok {
		t.Error("the table isn't the one that was put")
	}
	wantPut(t, tables, "b", nil, 1, "a")
	wantKeys(t, inner, 1, "a")
}

// wantPutOnly: as wantPut, for values that can't be shown.
func wantPutOnly[V any](t *testing.T, table *lru.Table[V], key string, v V) {
	t.Helper()
	if gone, ok := table.Put(key, v, 1); !ok || len(gone) != 0 {
		t.Errorf("Put(%q) = %q, %t", key, gone, ok)
	}
}
