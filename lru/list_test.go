package lru_test

import (
	"fmt"
	"math"
	"math/rand"
	"slices"
	"strconv"
	"testing"

	"conduit/lru"
)

// list: the chapter's words over a plain list of rows, the one that was used longest ago first.
type list struct {
	room int
	rows []row
}

func newList(room int) *list {
	if room < 0 {
		room = 0
	}
	if room > mostRoom {
		room = mostRoom
	}
	return &list{room: room}
}

func (l *list) index(key string) int {
	return slices.IndexFunc(l.rows, func(r row) bool { return r.key == key })
}

func (l *list) used() int {
	sum := 0
	for _, r := range l.rows {
		sum += r.size
	}
	return sum
}

func (l *list) put(key string, v, size int) ([]string, bool) {
	if size < 0 || size > l.room {
		return nil, false
	}
	l.drop(key)
	var gone []string
	for l.used()+size > l.room {
		gone = append(gone, l.rows[0].key)
		l.rows = l.rows[1:]
	}
	l.rows = append(l.rows, row{key, v, size})
	return gone, true
}

func (l *list) get(key string) (int, bool) {
	i := l.index(key)
	if i < 0 {
		return 0, false
	}
	r := l.rows[i]
	l.drop(key)
	l.rows = append(l.rows, r)
	return r.v, true
}

func (l *list) peek(key string) (int, bool) {
	i := l.index(key)
	if i < 0 {
		return 0, false
	}
	return l.rows[i].v, true
}

func (l *list) drop(key string) bool {
	i := l.index(key)
	if i < 0 {
		return false
	}
	l.rows = slices.Concat(l.rows[:i], l.rows[i+1:])
	return true
}

func (l *list) keys() []string {
	var all []string
	for i := len(l.rows) - 1; i >= 0; i-- {
		all = append(all, l.rows[i].key)
	}
	return all
}

// call: one call on a table.
type call struct {
	what string
	key  string
	v    int
	size int
}

// onTable, onList: what the call answers, in words.
func (c call) onTable(t *lru.Table[int]) string {
	switch c.what {
	case "put":
		gone, ok := t.Put(c.key, c.v, c.size)
		return fmt.Sprintf("%q %t", gone, ok)
	case "get":
		v, ok := t.Get(c.key)
		return fmt.Sprint(v, ok)
	case "peek":
		v, ok := t.Peek(c.key)
		return fmt.Sprint(v, ok)
	default:
		return fmt.Sprint(t.Drop(c.key))
	}
}

func (c call) onList(l *list) string {
	switch c.what {
	case "put":
		gone, ok := l.put(c.key, c.v, c.size)
		return fmt.Sprintf("%q %t", gone, ok)
	case "get":
		v, ok := l.get(c.key)
		return fmt.Sprint(v, ok)
	case "peek":
		v, ok := l.peek(c.key)
		return fmt.Sprint(v, ok)
	default:
		return fmt.Sprint(l.drop(c.key))
	}
}

// sameState: does the table hold what the list holds?
func sameState(table *lru.Table[int], l *list) bool {
	if table.Used() != l.used() || !slices.Equal(table.Keys(), l.keys()) {
		return false
	}
	for _, r := range l.rows {
		if v, ok := table.Peek(r.key); v != r.v || !ok {
			return false
		}
	}
	return true
}

// wantAlike: the script's calls answer on a table what they answer on the list, and leave the same.
func wantAlike(t *testing.T, room int, script []call) {
	t.Helper()
	table, l := lru.New[int](room), newList(room)
	for i, c := range script {
		got, want := c.onTable(table), c.onList(l)
		if got != want || !sameState(table, l) {
			t.Fatalf("room %d: %v of the %d calls %v answers %s, and leaves %q, %d; want %s, and %v", room, c, i+1, tail(script[:i+1]), got, table.Keys(), table.Used(), want, l.rows)
		}
	}
}

// tail: the last calls of a script, which are enough to tell.
func tail(script []call) []call {
	return script[max(0, len(script)-20):]
}

// everyCall: the calls on a table of a small room.
func everyCall(room int, keys ...string) []call {
	var all []call
	for i, key := range keys {
		for size := range room + 1 {
			all = append(all, call{"put", key, 10*size + i + 1, size})
		}
		all = append(all, call{"get", key, 0, 0}, call{"drop", key, 0, 0})
	}
	return append(all, call{"put", keys[0], 99, -1}, call{"put", keys[0], 99, room + 1}, call{"peek", keys[0], 0, 0})
}

// All scripts of a few calls, on few keys and in small rooms.
func TestEveryShortScript(t *testing.T) {
	for _, c := range []struct {
		room, length int
		keys         []string
	}{
		{0, 5, []string{"", "a", "b"}},
		{1, 4, []string{"", "a", "b"}},
		{2, 4, []string{"", "a", "b"}},
		{3, 3, []string{"", "a", "b"}},
		{2, 5, []string{"a", "b"}},
	} {
		calls := everyCall(c.room, c.keys...)
		script := make([]call, c.length)
		var from func(place int)
		from = func(place int) {
			if place == c.length {
				wantAlike(t, c.room, script)
				return
			}
			for _, one := range calls {
				script[place] = one
				from(place + 1)
			}
		}
		from(0)
	}
}

// sizeOf: a size, most of them small for the table's room, some at its edges and some out of it.
func sizeOf(r *rand.Rand, room int) int {
	room = newList(room).room
	edges := []int{0, 0, 0, 1, room, room - 1, room + 1, room / 2, room/2 + 1, -1, math.MinInt, math.MaxInt, mostRoom, mostRoom + 1}
	if r.Intn(4) == 0 {
		return edges[r.Intn(len(edges))]
	}
	return r.Intn(max(room, 1)/(1+r.Intn(12)) + 1)
}

// scriptOf: a script of calls on so many keys.
func scriptOf(r *rand.Rand, room, keys, length int) []call {
	words := []string{"put", "put", "put", "get", "get", "peek", "drop"}
	var script []call
	for i := range length {
		key := ""
		if n := r.Intn(keys); n > 0 {
			key = "key " + strconv.Itoa(n)
		}
		script = append(script, call{words[r.Intn(len(words))], key, i + 1, sizeOf(r, room)})
	}
	return script
}

func TestLongScripts(t *testing.T) {
	r := rand.New(rand.NewSource(14))
	for _, room := range []int{-1, 0, 1, 2, 3, 10, 100, 4_095, 1_000_000, mostRoom - 1, mostRoom, mostRoom + 1, math.MaxInt} {
		for _, keys := range []int{1, 2, 5, 20, 60} {
			wantAlike(t, room, scriptOf(r, room, keys, 1_500))
		}
	}
}

// Scripts on several tables by turns: what one of them answers hangs on its own calls alone.
func TestLongScriptsByTurns(t *testing.T) {
	r := rand.New(rand.NewSource(41))
	rooms := []int{0, 3, 10, 50, 10}
	var tables []*lru.Table[int]
	var lists []*list
	for _, room := range rooms {
		tables, lists = append(tables, lru.New[int](room)), append(lists, newList(room))
	}
	for i := range 20_000 {
		n := r.Intn(len(rooms))
		c := scriptOf(r, rooms[n], 8, 1)[0]
		got, want := c.onTable(tables[n]), c.onList(lists[n])
		if got != want || !sameState(tables[n], lists[n]) {
			t.Fatalf("call %d, on table %d: %v answers %s; want %s", i, n, c, got, want)
		}
	}
}

// The same calls answer the same, table by table.
func TestSameScriptSameAnswers(t *testing.T) {
	script := scriptOf(rand.New(rand.NewSource(7)), 20, 15, 2_000)
	one, two := lru.New[int](20), lru.New[int](20)
	for i, c := range script {
		a, b := c.onTable(one), c.onTable(two)
		if a != b || !slices.Equal(one.Keys(), two.Keys()) {
			t.Fatalf("call %d: %v answers %s and %s", i, c, a, b)
		}
	}
}

// A great table, in which no call may go through all that is there.
func TestManyKeys(t *testing.T) {
	const many = 100_000
	table := lru.New[int](many)
	name := func(i int) string { return "k" + strconv.Itoa(i) }
	for i := range many {
		wantPut(t, table, name(i), i, 1)
	}
	for i := 0; i < many; i += 2 {
		wantGet(t, table, name(i), i)
	}
	for i := range many / 2 {
		wantPut(t, table, "n"+strconv.Itoa(i), i, 1, name(2*i+1))
	}
	if got := table.Keys(); len(got) != many || got[0] != "n49999" || got[many/2] != name(many-2) || got[many-1] != name(0) {
		t.Errorf("%d keys", len(got))
	}
	for i := 0; i < many; i += 2 {
		wantDrop(t, table, name(i), true)
	}
	if len(table.Keys()) != many/2 || table.Used() != many/2 {
		t.Errorf("%d keys, %d used", len(table.Keys()), table.Used())
	}
	gone, ok := table.Put("all", 1, many)
	if !ok || len(gone) != many/2 || gone[0] != "n0" || gone[many/2-1] != "n49999" {
		t.Errorf("%d keys went, %t", len(gone), ok)
	}
	wantKeys(t, table, many, "all")
}
