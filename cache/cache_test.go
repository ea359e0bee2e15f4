package cache_test

import (
	"bytes"
	"fmt"
	"math"
	"reflect"
	"slices"
	"strings"
	"testing"

	"conduit/api"
	"conduit/cache"
	"conduit/disk"
	"conduit/object"
	"conduit/store"
)

// entry: a response without Vary; with a key of one byte and no body its bytes are 66.
func entry(key, body string, got int) api.Entry {
	return api.Entry{Key: key, Resp: api.Response{Status: 200, Minor: 1}, Body: []byte(body), Asked: got, Got: got}
}

// variant: a response that hangs on the request's X.
func variant(key, x, body string, got int) api.Entry {
	e := entry(key, body, got)
	e.Vary = "x:" + x + "\n"
	e.Resp.Fields = pairs("Vary", "X")
	return e
}

// other: an entry of any key and Vary, which answers no request, if Vary isn't empty.
func other(key, vary, body string, got int) api.Entry {
	e := entry(key, body, got)
	e.Vary = vary
	return e
}

// pairs: fields of these names and values.
func pairs(texts ...string) []api.Field {
	var list []api.Field
	for i := 0; i < len(texts); i += 2 {
		list = append(list, api.Field{Name: texts[i], Value: texts[i+1]})
	}
	return list
}

// idOf: an entry's Id, by the words of layer 12.
func idOf(e api.Entry) string {
	return e.Key + "\n" + e.Vary
}

func sizeOf(e api.Entry) int {
	b, errno := object.Encode(e)
	if errno != api.OK {
		panic(errno)
	}
	return len(b)
}

// show: an entry in words, cut where it is long.
func show(e api.Entry) string {
	return fmt.Sprintf("{%.40q %.40q %d %.40q %d %.200q %.40q %d %d}", e.Key, e.Vary, e.Resp.Status, e.Resp.Reason, e.Resp.Minor, e.Resp.Fields, e.Body, e.Asked, e.Got)
}

// alike: are the entries the same, where a nil list is an empty one?
func alike(one, other api.Entry) bool {
	same := bytes.Equal(one.Body, other.Body) && slices.Equal(one.Resp.Fields, other.Resp.Fields)
	one.Body, other.Body, one.Resp.Fields, other.Resp.Fields = nil, nil, nil, nil
	return same && reflect.DeepEqual(one, other)
}

// stand is a cache with what lies beneath it.
type stand struct {
	*cache.Cache
	t *testing.T
	d *disk.Disk
	s *store.Store
}

// over: an empty cache over an empty store, on a disk that fails at these steps. Open has made three steps, and each Put of a new Id makes six.
func over(t *testing.T, room int, fails ...int) stand {
	t.Helper()
	return on(t, nil, room, 9, fails, -1)
}

// on: a cache over a store of these files.
func on(t *testing.T, files []api.File, room, slots int, fails []int, power int) stand {
	t.Helper()
	d, errno := disk.New(files, 1<<20, fails, power)
	if errno != api.OK {
		t.Fatalf("disk.New = %d", errno)
	}
	s, errno := store.Open(d, slots)
	if errno != api.OK {
		t.Fatalf("store.Open = %d", errno)
	}
	return stand{cache.New(s, room), t, d, s}
}

// alone: an empty cache without a store.
func alone(t *testing.T, room int) stand {
	return stand{Cache: cache.New(nil, room), t: t}
}

// anew: an empty cache over the store as it is, so without what memory had and without hidden Ids.
func (s stand) anew(room int) stand {
	return stand{cache.New(s.s, room), s.t, s.d, s.s}
}

// again: a cache over what the disk holds, or over what is safe of it, opened anew.
func (s stand) again(room int, all bool) stand {
	s.t.Helper()
	fate := api.Fate{}
	if all {
		fate = api.Fate{Names: math.MaxInt, Keep: slices.Repeat([]int{math.MaxInt}, 1000)}
	}
	return on(s.t, s.d.Left(fate), room, 9, nil, -1)
}

// saves: Save answers OK for each.
func (s stand) saves(list ...api.Entry) {
	s.t.Helper()
	for _, e := range list {
		s.save(e, api.OK)
	}
}

func (s stand) save(e api.Entry, want api.Errno) {
	s.t.Helper()
	if errno := s.Save(e); errno != want {
		s.t.Errorf("Save of %.40q, %d = %d; want %d", idOf(e), e.Got, errno, want)
	}
}

// finds: Find answers this entry.
func (s stand) finds(ask []api.Field, want api.Entry) {
	s.t.Helper()
	if got, found := s.Find(want.Key, ask); !found || !alike(got, want) {
		s.t.Errorf("Find(%.40q, %.40q) = %s, %t; want %s", want.Key, ask, show(got), found, show(want))
	}
}

// misses: Find answers nothing.
func (s stand) misses(key string, ask []api.Field) {
	s.t.Helper()
	if got, found := s.Find(key, ask); found || !alike(got, api.Entry{}) {
		s.t.Errorf("Find(%.40q, %.40q) = %s, %t; want nothing", key, ask, show(got), found)
	}
}

func (s stand) purge(key string, n int, want api.Errno) {
	s.t.Helper()
	if got, errno := s.Purge(key); got != n || errno != want {
		s.t.Errorf("Purge(%.40q) = %d, %d; want %d, %d", key, got, errno, n, want)
	}
}

// ids: the cache has just these entries' Ids.
func (s stand) ids(want ...api.Entry) {
	s.t.Helper()
	if got := s.Ids(); !slices.Equal(got, idsOf(want)) {
		s.t.Errorf("Ids() = %.300q; want %.300q", got, idsOf(want))
	}
}

// stored: the store has just these entries.
func (s stand) stored(want ...api.Entry) {
	s.t.Helper()
	if got := s.s.Ids(); !slices.Equal(got, idsOf(want)) {
		s.t.Errorf("the store has %.300q; want %.300q", got, idsOf(want))
	}
	for _, e := range want {
		if got, found := s.s.Get(idOf(e)); !found || !alike(got, e) {
			s.t.Errorf("the store has of %.40q %s, %t; want %s", idOf(e), show(got), found, show(e))
		}
	}
}

// steps: the disk was called so many times.
func (s stand) steps(want int) {
	s.t.Helper()
	if got := s.d.Steps(); got != want {
		s.t.Errorf("the disk has made %d steps; want %d", got, want)
	}
}

// idsOf: the Ids of these entries, rising.
func idsOf(list []api.Entry) []string {
	var ids []string
	for _, e := range list {
		ids = append(ids, idOf(e))
	}
	slices.Sort(ids)
	return ids
}

// The chapter's example

func TestExample(t *testing.T) {
	a, b := entry("a", "A", 1), entry("b", "B", 2)
	c := over(t, sizeOf(a))
	c.saves(a, b)
	c.ids(a, b)
	c.finds(nil, a)
	c.stored(a, b)
	c.purge("a", 1, api.OK)
	c.misses("a", nil)
	c.ids(b)
	for _, all := range []bool{true, false} {
		again := c.again(1000, all)
		again.misses("a", nil)
		again.finds(nil, b)
		again.ids(b)
	}
}

// P20.1: New

func TestNewIsEmpty(t *testing.T) {
	for _, room := range []int{math.MinInt, -1, 0, 1, 66, 1 << 30, 1<<30 + 1, math.MaxInt} {
		for _, c := range []stand{alone(t, room), over(t, room)} {
			c.ids()
			c.misses("a", nil)
			c.misses("", nil)
			c.purge("a", 0, api.OK)
			if c.d != nil {
				c.steps(3)
			}
		}
	}
}

func TestNewOverAStoreWithEntries(t *testing.T) {
	a, b := entry("a", "A", 1), variant("b", "1", "B", 2)
	first := over(t, 0)
	first.saves(a, b)
	for _, room := range []int{math.MinInt, 0, 66, 1000} {
		c := first.anew(room)
		c.ids(a, b)
		c.finds(nil, a)
		c.finds(pairs("x", "1"), b)
		c.misses("b", nil)
		c.steps(15)
	}
}

// How much the memory holds shows in a cache without a store.
func TestRoom(t *testing.T) {
	a, b, d := entry("a", "", 1), entry("b", "1", 2), entry("d", "", 3)
	for _, c := range []struct {
		room int
		want []api.Entry
	}{
		{math.MinInt, nil}, {-1, nil}, {0, nil}, {1, nil}, {65, nil},
		{66, []api.Entry{d}}, {67, []api.Entry{d}}, {131, []api.Entry{d}}, {132, []api.Entry{d}},
		{133, []api.Entry{b, d}}, {134, []api.Entry{b, d}}, {198, []api.Entry{b, d}},
		{199, []api.Entry{a, b, d}}, {1 << 30, []api.Entry{a, b, d}}, {math.MaxInt, []api.Entry{a, b, d}},
	} {
		held := alone(t, c.room)
		held.saves(a, b, d)
		held.ids(c.want...)
		for _, e := range c.want {
			held.finds(nil, e)
		}
	}
}

// The size is that of all the entry's bytes: each part counts.
func TestSizeIsThatOfTheBytes(t *testing.T) {
	full := variant("key of it", "value", "body", 7)
	full.Resp.Reason = "Reason"
	full.Resp.Fields = append(full.Resp.Fields, pairs("Another", "field")...)
	for _, e := range []api.Entry{entry("a", "", 1), entry("longer", "", 1), entry("a", "body", 1), variant("a", "1", "", 1), full} {
		for _, less := range []int{0, 1} {
			c := alone(t, sizeOf(e)-less)
			c.saves(e)
			if less == 0 {
				c.ids(e)
			} else {
				c.ids()
			}
		}
	}
}

// P20.2: Save

// wrongEntries: such as object.Encode refuses.
func wrongEntries() []api.Entry {
	change := func(by func(e *api.Entry)) api.Entry {
		e := variant("a", "1", "body", 5)
		by(&e)
		return e
	}
	return []api.Entry{
		{},
		change(func(e *api.Entry) { e.Key = "" }),
		change(func(e *api.Entry) { e.Key = strings.Repeat("k", 4097) }),
		change(func(e *api.Entry) { e.Vary = strings.Repeat("v", 4097) }),
		change(func(e *api.Entry) { e.Body = make([]byte, 65537) }),
		change(func(e *api.Entry) { e.Asked = -1 }),
		change(func(e *api.Entry) { e.Asked = 253402300800 }),
		change(func(e *api.Entry) { e.Got = -1 }),
		change(func(e *api.Entry) { e.Got = math.MinInt }),
		change(func(e *api.Entry) { e.Got = 253402300800 }),
		change(func(e *api.Entry) { e.Resp.Status = 99 }),
		change(func(e *api.Entry) { e.Resp.Status = 1000 }),
		change(func(e *api.Entry) { e.Resp.Minor = 2 }),
		change(func(e *api.Entry) { e.Resp.Reason = "a\nb" }),
		change(func(e *api.Entry) { e.Resp.Fields = pairs("", "x") }),
		change(func(e *api.Entry) { e.Resp.Fields = pairs("Vary", "a\rb") }),
	}
}

func TestSaveOfAWrongEntry(t *testing.T) {
	was, b := variant("a", "1", "body", 5), entry("b", "", 6)
	for _, wrong := range wrongEntries() {
		for _, room := range []int{0, 66, 1000} {
			c := over(t, room)
			c.save(wrong, api.ErrObject)
			c.ids()
			c.steps(3)
			c.saves(was, b)
			c.save(wrong, api.ErrObject)
			c.ids(was, b)
			c.finds(pairs("X", "1"), was)
			c.finds(nil, b)
			c.stored(was, b)
			c.steps(15)
		}
		c := alone(t, 1000)
		c.saves(was, b)
		c.save(wrong, api.ErrObject)
		c.ids(was, b)
		c.finds(pairs("X", "1"), was)
	}
}

// A refused entry changes nothing of what is hidden either: the hidden Id is not shown and not let go.
func TestSaveOfAWrongEntryOfAHiddenId(t *testing.T) {
	wrong := entry("a", "", -1)
	c := over(t, 0, 10)
	c.saves(entry("a", "", 1))
	c.purge("a", 1, api.ErrFault)
	c.save(wrong, api.ErrObject)
	c.ids()
	c.misses("a", nil)
	// And what memory has in place of it stays.
	c = over(t, 66, 16)
	b := entry("b", "", 2)
	c.saves(entry("a", "", 1), b)
	c.save(entry("b", "", 3), api.ErrFault)
	c.save(entry("b", "", -1), api.ErrObject)
	c.finds(nil, entry("b", "", 3))
}

func TestSaveInPlaceOfAnEntry(t *testing.T) {
	old, young := variant("a", "1", "old", 5), variant("a", "1", "younger", 3)
	for _, room := range []int{0, sizeOf(old), sizeOf(young), 1000} {
		c := over(t, room)
		c.saves(old, young)
		c.ids(young)
		c.finds(pairs("X", "1"), young)
		c.stored(young)
		c.steps(3 + 6 + 7)
		again := c.again(1000, false)
		again.finds(pairs("X", "1"), young)
	}
	c := alone(t, 1000)
	c.saves(old, young)
	c.ids(young)
	c.finds(pairs("X", "1"), young)
}

// Without a store what memory has under the Id goes all the same, when the new entry is too great for memory.
func TestSaveOfWhatIsTooGreatForMemory(t *testing.T) {
	old, young, b := entry("a", "", 1), entry("a", "much more", 2), entry("b", "", 3)
	c := alone(t, 70)
	c.saves(old, young)
	c.ids()
	c.misses("a", nil)
	c = alone(t, 140)
	c.saves(old, b)
	c.saves(entry("a", strings.Repeat("x", 75), 2))
	c.ids(b)
	c.finds(nil, b)
	// It takes no other entry's room.
	c.saves(entry("d", strings.Repeat("x", 75), 2))
	c.ids(b)
	// Over a store the new entry is found there.
	c = over(t, 70)
	c.saves(old, young)
	c.ids(young)
	c.finds(nil, young)
	// Where the store doesn't take it in either, there is none.
	c = over(t, 70, 10)
	c.saves(old)
	c.save(young, api.ErrFault)
	c.ids()
	c.misses("a", nil)
	c.stored(old)
}

func TestSaveTellsWhatPutAnswers(t *testing.T) {
	a, long := entry("a", "", 1), other(strings.Repeat("k", 4000), strings.Repeat("v", 96), "", 2)
	c := on(t, nil, 10000, 1, nil, -1)
	c.save(long, api.ErrLong)
	c.ids(long)
	c.misses(long.Key, nil)
	c.stored()
	c.steps(3)
	c.saves(a)
	c.save(entry("b", "", 1), api.ErrRoom)
	c.ids(a, long, entry("b", "", 1))
	c.finds(nil, entry("b", "", 1))
	c.stored(a)
	c.anew(0).ids(a)

	c = on(t, nil, 0, 0, nil, -1)
	c.save(a, api.ErrRoom)
	c.ids()

	// An Id of just KeyCap bytes is stored.
	long.Vary = long.Vary[1:]
	c = over(t, 0)
	c.saves(long)
	c.ids(long)

	// A disk without room.
	d, _ := disk.New(nil, 10, nil, -1)
	s, _ := store.Open(d, 9)
	full := stand{cache.New(s, 1000), t, d, s}
	full.save(a, api.ErrFull)
	full.finds(nil, a)
	full.stored()
}

// Each step of the first Put of an Id: only from the log's Sync on the store has it.
func TestSaveWithAFaultOfANewId(t *testing.T) {
	a := entry("a", "", 1)
	for step := 4; step <= 9; step++ {
		for _, room := range []int{0, 1000} {
			c := over(t, room, step)
			c.save(a, api.ErrFault)
			shown := room > 0
			if step < 9 {
				c.stored()
			} else {
				c.stored(a)
			}
			if shown {
				c.ids(a)
				c.finds(nil, a)
			} else {
				c.ids()
				c.misses("a", nil)
			}
			// A Save that answers OK shows it.
			young := entry("a", "young", 2)
			c.saves(young)
			c.ids(young)
			c.finds(nil, young)
			c.stored(young)
			c.again(0, false).finds(nil, young)
		}
	}
}

// Each step of a Put in place of an entry: what the store still has, or has already, is hidden; memory shows the new one.
func TestSaveWithAFaultOfAnIdThatTheStoreHas(t *testing.T) {
	old, young := entry("a", "old", 1), entry("a", "young", 2)
	for step := 10; step <= 15; step++ {
		for _, room := range []int{0, sizeOf(young), 1000} {
			c := over(t, room, step)
			c.saves(old)
			c.save(young, api.ErrFault)
			if step < 15 {
				c.stored(old)
			} else {
				c.stored(young)
			}
			if room == 0 {
				c.ids()
				c.misses("a", nil)
				continue
			}
			c.ids(young)
			c.finds(nil, young)
			if room < 1000 {
				// When the new one goes out of memory the old one isn't shown.
				b := entry("b", "xx", 3)
				c.saves(b)
				c.ids(b)
				c.misses("a", nil)
				c.anew(0).ids(old, b)
			}
		}
	}
	// The last step's answer isn't Put's: the old file couldn't be removed, but the new entry counts.
	c := over(t, 0, 16)
	c.saves(old, young)
	c.ids(young)
	c.finds(nil, young)
}

func TestSaveOfAHiddenId(t *testing.T) {
	a, young := entry("a", "", 1), entry("a", "young", 2)
	// Step 10 is the Drop's, step 11 the next Put's.
	c := over(t, 0, 10, 11)
	c.saves(a)
	c.purge("a", 1, api.ErrFault)
	c.ids()
	c.save(young, api.ErrFault)
	c.ids()
	c.misses("a", nil)
	c.stored(a)
	c.saves(young)
	c.ids(young)
	c.finds(nil, young)
	c.stored(young)
	// It is hidden no more: out of memory, it is shown.
	c = over(t, 80, 10)
	c.saves(a)
	c.purge("a", 1, api.ErrFault)
	c.saves(young, entry("b", "12345678", 3))
	c.ids(young, entry("b", "", 3))
	c.finds(nil, young)
	// In memory alone it is shown, hidden or not.
	c = over(t, 1000, 10, 11)
	c.saves(a)
	c.purge("a", 1, api.ErrFault)
	c.save(young, api.ErrFault)
	c.ids(young)
	c.finds(nil, young)
	c.stored(a)
}

func TestSaveWithThePowerOff(t *testing.T) {
	a, b := entry("a", "", 1), entry("b", "", 2)
	for power := 3; power < 15; power++ {
		c := on(t, nil, 66, 9, nil, power)
		first, second := c.Save(a), c.Save(b)
		if (first == api.OK) != (power >= 9) || second != api.ErrPower || first != api.OK && first != api.ErrPower {
			t.Errorf("power %d: Save = %d, %d", power, first, second)
		}
		c.finds(nil, b)
		// A file isn't read any more; what the store has of it, it can't answer.
		c.misses("a", nil)
		again := c.again(0, false)
		if power >= 9 {
			again.finds(nil, a)
		}
		again.misses("b", nil)
	}
}

// P20.3: Find

func TestFindTheKeyItself(t *testing.T) {
	list := []api.Entry{entry("a", "1", 9), entry("ab", "2", 1), entry("a/b", "3", 2), entry("b", "4", 3), entry("A", "5", 4)}
	for _, c := range []stand{alone(t, 10000), over(t, 0), over(t, 80), over(t, 10000)} {
		c.saves(list...)
		for _, e := range list {
			c.finds(nil, e)
			c.finds(pairs("X", "1", "Vary", "*"), e)
		}
		for _, key := range []string{"", "a/", "abc", "a\n", "\n", "a\nb", "c", "a/b\n", " a", "a "} {
			c.misses(key, nil)
		}
	}
}

// Ids begin alike where a key has a byte 10: the entry's Key tells.
func TestFindKeysWithAByteTen(t *testing.T) {
	list := []api.Entry{entry("a\nb", "1", 9), entry("a", "2", 1), entry("a\n", "3", 8), entry("\n", "4", 7), entry("a\n\nb", "5", 6)}
	for _, c := range []stand{alone(t, 10000), over(t, 0), over(t, 10000)} {
		c.saves(list...)
		for _, e := range list {
			c.finds(nil, e)
		}
		c.ids(list...)
		for _, key := range []string{"", "b", "a\n\n", "a\nb\n"} {
			c.misses(key, nil)
		}
	}
	// Without the shorter key nothing of the longer one is found under it.
	for _, c := range []stand{alone(t, 1000), over(t, 0)} {
		c.saves(entry("a\nb", "", 9))
		c.misses("a", nil)
		c.finds(nil, entry("a\nb", "", 9))
	}
}

// An Id may be that of two keys: the later Save has it, whatever tier it is in.
func TestFindUnderAnIdWhoseKeyIsAnother(t *testing.T) {
	// Both have the Id "a", 10, "x:1", 10.
	one, two := variant("a", "1", "one", 1), entry("a\nx:1", "two", 2)
	for _, c := range []stand{alone(t, 1000), over(t, 0), over(t, 1000)} {
		c.saves(one)
		c.finds(pairs("X", "1"), one)
		c.misses("a\nx:1", nil)
		c.saves(two)
		c.ids(two)
		c.misses("a", pairs("X", "1"))
		c.finds(nil, two)
	}
	// Memory has another key's than the store, which isn't asked then.
	c := over(t, 1000, 10)
	c.saves(one)
	c.save(two, api.ErrFault)
	c.stored(one)
	c.misses("a", pairs("X", "1"))
	c.finds(nil, two)
}

func TestFindMatches(t *testing.T) {
	one, two, none := variant("a", "1", "one", 5), variant("a", "2", "two", 6), entry("a", "none", 1)
	empty := variant("a", "", "", 4)
	without := other("a", "x\n", "without", 3)
	without.Resp.Fields = pairs("vary", "x")
	star := entry("a", "star", 100)
	star.Vary, star.Resp.Fields = "*", pairs("Vary", "*")
	wrong := other("a", "y:1\n", "wrong", 100)
	for _, c := range []stand{alone(t, 10000), over(t, 0), over(t, 200), over(t, 10000)} {
		c.saves(one, two, none, without, star, wrong, empty)
		c.finds(pairs("X", "1"), one)
		c.finds(pairs("x", " 1 ", "Y", "1"), one)
		c.finds(pairs("x", "2"), two)
		c.finds(pairs("y", "1"), without)
		c.finds(nil, without)
		c.finds(pairs("X", "3"), none)
		c.finds(pairs("X", ""), empty)
		c.finds(pairs("X", "1", "X", "2"), none)
	}
}

func TestFindTheGreatestGot(t *testing.T) {
	for _, gots := range [][]int{{1, 2, 3}, {3, 2, 1}, {2, 3, 1}, {0, 0, 0}, {5, 5, 1}, {5, 1, 5}, {1, 5, 5}, {0, 253402300799, 1}} {
		// All three match the request; their Ids rise.
		first := entry("a", "first", gots[0])
		second := other("a", "w\n", "second", gots[1])
		second.Resp.Fields = pairs("Vary", "W")
		third := variant("a", "1", "third", gots[2])
		list := []api.Entry{first, second, third}
		best := list[0]
		for _, e := range list[1:] {
			if e.Got >= best.Got {
				best = e
			}
		}
		for _, order := range [][]int{{0, 1, 2}, {0, 2, 1}, {1, 0, 2}, {1, 2, 0}, {2, 0, 1}, {2, 1, 0}} {
			for _, c := range []stand{alone(t, 10000), over(t, 0), over(t, 120), over(t, 10000)} {
				for _, i := range order {
					c.saves(list[i])
				}
				c.finds(pairs("X", "1"), best)
				c.finds(pairs("X", "1"), best)
			}
		}
	}
}

func TestFindNothingHidden(t *testing.T) {
	a, young := entry("a", "", 9), variant("a", "1", "", 2)
	// Step 16 is that of the Drop of the first Id.
	c := over(t, 0, 16)
	c.saves(a, young)
	c.purge("a", 2, api.ErrFault)
	c.misses("a", nil)
	c.misses("a", pairs("X", "1"))
	c.stored(a)
	c.saves(young)
	// The hidden one has the greater Got.
	c.finds(pairs("X", "1"), young)
	c.misses("a", nil)
	c.ids(young)
}

// Where the power is off no file is read: what memory has is found, and the rest counts as none.
func TestFindOfWhatTheStoreDoesNotAnswer(t *testing.T) {
	a, better, b := entry("a", "", 1), variant("a", "1", "more", 9), entry("b", "", 2)
	c := on(t, nil, 66, 9, nil, 3+18)
	c.saves(b, better, a)
	c.save(entry("d", strings.Repeat("x", 100), 3), api.ErrPower)
	c.ids(a, better, b)
	c.finds(nil, a)
	// The one of the greatest Got can't be had.
	c.finds(pairs("X", "1"), a)
	c.misses("b", nil)
	c.ids(a, better, b)
	c.finds(nil, a)
}

// An empty key is nobody's: what can't be had under an Id that begins with a byte 10 isn't its entry.
func TestFindOfAnEmptyKeyWithThePowerOff(t *testing.T) {
	c := on(t, nil, 0, 9, nil, 9)
	c.saves(entry("\n", "", 1))
	c.ids(entry("\n", "", 1))
	c.misses("", nil)
	c.misses("\n", nil)
	c.purge("", 1, api.ErrPower)
}

// What was found and wasn't in memory is put there, and what was used longest ago goes out.
func TestFindPutsIntoMemory(t *testing.T) {
	a, b, d := entry("a", "", 1), entry("b", "", 2), entry("d", "", 3)
	// The power goes off behind the three Puts: from then on memory alone answers.
	for _, finds := range []struct {
		keys, held string
	}{
		{"", "bd"}, {"a", "ad"}, {"ab", "ab"}, {"aba", "ab"}, {"b", "bd"}, {"ba", "ab"}, {"da", "ad"}, {"dba", "ab"}, {"bda", "ad"}, {"abd", "bd"}, {"aad", "ad"}, {"addb", "bd"},
	} {
		c := on(t, nil, 132, 9, nil, 3+18+1)
		c.saves(a, b, d)
		for _, key := range finds.keys {
			if _, found := c.Find(string(key), nil); !found {
				t.Errorf("%q: %q isn't found", finds.keys, key)
			}
		}
		c.d.SyncNames()
		for _, e := range []api.Entry{a, b, d} {
			if strings.Contains(finds.held, e.Key) {
				c.finds(nil, e)
			} else {
				c.misses(e.Key, nil)
			}
		}
	}
}

// What is greater than the whole memory is found, and takes nobody's room.
func TestFindOfWhatIsTooGreatForMemory(t *testing.T) {
	a, great := entry("a", "", 1), entry("b", strings.Repeat("x", 1000), 2)
	c := on(t, nil, 66, 9, nil, 3+12+1)
	c.saves(great, a)
	c.finds(nil, great)
	c.finds(nil, great)
	c.d.SyncNames()
	c.finds(nil, a)
	c.misses("b", nil)
	c.ids(a, great)
}

// What was found has been used; what was looked at besides, and what Ids, Purge and a Find of nothing look at, has not.
func TestFindUses(t *testing.T) {
	one, two, b, d := variant("a", "1", "", 1), variant("a", "2", "", 2), entry("b", "", 3), entry("d", "", 4)
	room := sizeOf(one) + sizeOf(two) + sizeOf(b)
	calls := map[string]func(c stand){
		"none":     func(stand) {},
		"one":      func(c stand) { c.finds(pairs("X", "1"), one) },
		"two":      func(c stand) { c.finds(pairs("X", "2"), two) },
		"b":        func(c stand) { c.finds(nil, b) },
		"three":    func(c stand) { c.misses("a", pairs("X", "3")) },
		"ids":      func(c stand) { c.ids(one, two, b) },
		"purge":    func(c stand) { c.purge("c", 0, api.OK) },
		"one, two": func(c stand) { c.finds(pairs("X", "1"), one); c.finds(pairs("X", "2"), two) },
		"two, one": func(c stand) { c.finds(pairs("X", "2"), two); c.finds(pairs("X", "1"), one) },
		"one, b":   func(c stand) { c.finds(pairs("X", "1"), one); c.finds(nil, b) },
		"wrong":    func(c stand) { c.save(entry("a", "", -1), api.ErrObject) },
	}
	left := map[string][]api.Entry{
		"one": {one, b}, "two": {two, b}, "b": {two, b}, "one, two": {one, two}, "two, one": {one, two}, "one, b": {one, b},
	}
	for name, call := range calls {
		c := alone(t, room)
		c.saves(one, two, b)
		call(c)
		// It needs the room of one alone.
		c.saves(d)
		want := left[name]
		if want == nil {
			want = []api.Entry{two, b}
		}
		c.ids(append(slices.Clone(want), d)...)
		if t.Failed() {
			t.Fatalf("behind %q", name)
		}
	}
}

// Of several that match only the one that is answered has been used.
func TestFindUsesOnlyTheBest(t *testing.T) {
	plain, best, b := entry("a", "12345678901", 1), variant("a", "1", "", 2), entry("b", "12345678901", 3)
	room := sizeOf(plain) + sizeOf(best) + sizeOf(b)
	c := alone(t, room)
	c.saves(plain, best, b)
	c.finds(pairs("X", "1"), best)
	c.saves(entry("d", "", 4))
	c.ids(best, b, entry("d", "", 4))
	c.saves(entry("f", "", 4))
	c.ids(best, entry("d", "", 4), entry("f", "", 4))
}

// P20.4: Purge

func TestPurge(t *testing.T) {
	list := []api.Entry{entry("a", "", 1), variant("a", "1", "", 2), variant("a", "2", "", 3)}
	stay := []api.Entry{entry("ab", "", 4), entry("a\nb", "", 5), entry("b", "", 6), entry("a\nx:1", "", 7), variant("a\nb", "1", "", 8)}
	for _, room := range []int{0, 66, 150, 10000} {
		c := over(t, room)
		c.saves(append(slices.Clone(list), stay...)...)
		c.purge("", 0, api.OK)
		c.purge("c", 0, api.OK)
		c.purge("a\n", 0, api.OK)
		// One of the variants' Ids is another key's now.
		c.purge("a", 2, api.OK)
		c.ids(stay...)
		c.stored(stay...)
		c.misses("a", nil)
		c.misses("a", pairs("X", "2"))
		c.purge("a", 0, api.OK)
		c.purge("a\nb", 2, api.OK)
		c.ids(stay[0], stay[2], stay[3])
		c.again(10000, false).ids(stay[0], stay[2], stay[3])
		c.purge("a\nx:1", 1, api.OK)
		c.purge("ab", 1, api.OK)
		c.purge("b", 1, api.OK)
		c.ids()
		c.stored()
	}
	c := alone(t, 10000)
	c.saves(append(slices.Clone(list), stay...)...)
	c.purge("a", 2, api.OK)
	c.ids(stay...)
	c.purge("a", 0, api.OK)
	c.misses("a", nil)
}

// Each Drop makes three steps, one Id after the other.
func TestPurgeDropsRising(t *testing.T) {
	list := []api.Entry{variant("a", "2", "two", 3), entry("a", "none", 1), variant("a", "1", "one", 2)}
	for _, room := range []int{0, 1000} {
		for power := 21; power <= 30; power++ {
			c := on(t, nil, room, 9, nil, power)
			c.saves(list...)
			want := api.OK
			// Behind the log's two steps the rest of a Drop doesn't matter to its answer.
			if power < 29 {
				want = api.ErrPower
			}
			c.purge("a", 3, want)
			c.steps(min(power, 30))
			// Two of a Drop's three steps make its record safe.
			rising := []api.Entry{list[1], list[2], list[0]}
			c.again(0, false).ids(rising[(power-20)/3:]...)
			c.ids()
			c.misses("a", nil)
			c.misses("a", pairs("X", "1"))
		}
	}
}

// Of memory, of the store, of both.
func TestPurgeOfEitherTier(t *testing.T) {
	// In memory alone, for the store has no room for it.
	c := on(t, nil, 1000, 1, nil, -1)
	c.saves(entry("b", "", 1))
	c.save(entry("a", "", 2), api.ErrRoom)
	c.steps(9)
	c.purge("a", 1, api.OK)
	c.steps(9)
	c.misses("a", nil)
	// In both.
	c.purge("b", 1, api.OK)
	c.steps(12)
	c.ids()
	// In the store alone.
	c = over(t, 0)
	c.saves(entry("a", "", 1))
	c.purge("a", 1, api.OK)
	c.steps(12)
	c.ids()
	// Some here, some there.
	c = over(t, 66)
	c.saves(variant("a", "1", "", 1), entry("a", "", 1))
	c.purge("a", 2, api.OK)
	c.steps(3 + 12 + 6)
	c.ids()
	c.stored()
}

// Memory's entry tells the key, where it has one, not the store's.
func TestPurgeByMemorysKey(t *testing.T) {
	one, two := variant("a", "1", "one", 1), entry("a\nx:1", "two", 2)
	c := over(t, 1000, 10)
	c.saves(one)
	c.save(two, api.ErrFault)
	c.stored(one)
	c.purge("a", 0, api.OK)
	c.finds(nil, two)
	c.purge("a\nx:1", 1, api.OK)
	c.ids()
	c.stored()
	// Out of memory, the hidden one's entry tells it.
	c = over(t, 66, 10)
	c.saves(one)
	c.save(two, api.ErrFault)
	c.saves(entry("b", "", 1))
	c.purge("a\nx:1", 0, api.OK)
	c.purge("a", 1, api.OK)
	c.stored(entry("b", "", 1))
}

// A fault at each of a Drop's steps.
func TestPurgeWithAFault(t *testing.T) {
	a := entry("a", "", 1)
	for _, room := range []int{0, 1000} {
		// The log's Append: the store still has it.
		c := over(t, room, 10, 11)
		c.saves(a)
		c.purge("a", 1, api.ErrFault)
		c.stored(a)
		c.ids()
		c.misses("a", nil)
		c.steps(10)
		// Hidden ones are purged, too.
		c.purge("a", 1, api.ErrFault)
		c.stored(a)
		c.ids()
		c.anew(0).finds(nil, a)
		c.purge("a", 1, api.OK)
		c.stored()
		c.purge("a", 0, api.OK)
		c.steps(14)
		// It is hidden no more.
		c.saves(a)
		c.finds(nil, a)

		// The log's Sync: the store has it no more, but tells of the fault.
		c = over(t, room, 11)
		c.saves(a)
		c.purge("a", 1, api.ErrFault)
		c.stored()
		c.ids()
		c.misses("a", nil)
		c.saves(a)
		c.finds(nil, a)

		// The file's Remove: nobody is told.
		c = over(t, room, 12)
		c.saves(a)
		c.purge("a", 1, api.OK)
		c.stored()
		c.ids()
		c.again(0, true).ids()
		c.again(0, false).ids()
	}
}

// One Drop's error doesn't keep the others; the first one is told.
func TestPurgeOfSeveralWithFaults(t *testing.T) {
	list := []api.Entry{entry("a", "", 1), variant("a", "1", "", 2), variant("a", "2", "", 3)}
	for _, room := range []int{0, 1000} {
		for _, f := range []struct {
			fails []int
			left  []api.Entry
		}{
			{[]int{22}, list[:1]}, {[]int{23}, nil},
			{[]int{25}, list[1:2]}, {[]int{26}, nil},
			{[]int{28}, list[2:]}, {[]int{29}, nil},
			{[]int{22, 23}, list[:2]}, {[]int{22, 24}, list[:1]}, {[]int{22, 26}, []api.Entry{list[0], list[2]}}, {[]int{22, 23, 24}, list},
			{[]int{25, 26}, list[1:]},
		} {
			c := over(t, room, f.fails...)
			c.saves(list...)
			c.purge("a", 3, api.ErrFault)
			c.stored(f.left...)
			c.ids()
			for _, x := range []string{"0", "1", "2"} {
				c.misses("a", pairs("X", x))
			}
			c.anew(0).ids(f.left...)
			c.purge("a", len(f.left), api.OK)
			c.stored()
		}
	}
	// The first error, not the last: a fault, and then the power's end.
	c := on(t, nil, 0, 9, []int{22}, 22)
	c.saves(list...)
	c.purge("a", 3, api.ErrFault)
	c.purge("a", 3, api.ErrPower)
}

// What can't be had may be the key's: it goes with the others. Those that memory has are told apart still.
func TestPurgeOfWhatCanNotBeHad(t *testing.T) {
	a, b, far := entry("a", "", 1), entry("a\nb", "", 2), entry("b", "", 3)
	// Only the last one is in memory.
	for _, c := range []struct {
		list []api.Entry
		n    int
		ids  []api.Entry
	}{
		{[]api.Entry{b, far, a}, 2, []api.Entry{far}},
		{[]api.Entry{far, a, b}, 1, []api.Entry{far, b}},
		{[]api.Entry{a, b, far}, 2, []api.Entry{far}},
	} {
		held := on(t, nil, sizeOf(b), 9, nil, 21)
		held.saves(c.list...)
		held.purge("a", c.n, api.ErrPower)
		held.ids(c.ids...)
		held.purge("a", c.n, api.ErrPower)
		held.again(0, false).ids(a, b, far)
	}
	// It is the entries' state ahead of the first Drop that counts: the power's end within doesn't make the later ones unreadable.
	for power := 21; power < 28; power++ {
		held := on(t, nil, 0, 9, nil, power)
		held.saves(a, b, far)
		n := 1
		if power == 21 {
			n = 2
		}
		want := api.OK
		if power < 23 {
			want = api.ErrPower
		}
		held.purge("a", n, want)
	}
}

// What Purge answered OK for stays away in a cache over the store opened anew, whatever the power's end leaves.
func TestWhatWasPurgedStaysAway(t *testing.T) {
	a, one, b := entry("a", "A", 1), variant("a", "1", "one", 2), entry("b", "B", 3)
	for _, room := range []int{0, 80, 1000} {
		for power := 3; power <= 30; power++ {
			c := on(t, nil, room, 9, nil, power)
			c.Save(a)
			c.Save(one)
			saved := c.Save(b)
			n, purged := c.Purge("a")
			if power >= 26 && (n != 2 || purged != api.OK) {
				t.Errorf("power %d: Purge = %d, %d", power, n, purged)
			}
			for names := range 12 {
				for _, keep := range []int{0, 10, 50, 1000} {
					left := c.d.Left(api.Fate{Names: names, Keep: slices.Repeat([]int{keep}, 20)})
					again := on(t, left, 1000, 9, nil, -1)
					again.whole(a, one, b)
					if purged == api.OK {
						again.misses("a", nil)
						again.misses("a", pairs("X", "1"))
					}
					if saved == api.OK {
						again.finds(nil, b)
					}
				}
			}
		}
	}
}

// whole: what the cache has are some of these entries, each as it was saved.
func (s stand) whole(list ...api.Entry) {
	s.t.Helper()
	for _, id := range s.Ids() {
		at := slices.IndexFunc(list, func(e api.Entry) bool { return idOf(e) == id })
		if at < 0 {
			s.t.Errorf("there is %q", id)
			continue
		}
		if got, found := s.s.Get(id); !found || !alike(got, list[at]) {
			s.t.Errorf("%q is %s, %t", id, show(got), found)
		}
	}
}

// P20.5: Ids

func TestIds(t *testing.T) {
	a, b, d, f := entry("a", "", 1), entry("b", "", 2), entry("d", "", 3), entry("f", "", 4)
	// Memory has the last one alone.
	c := over(t, 66)
	c.saves(d, a)
	c.ids(a, d)
	c.saves(b)
	c.ids(a, b, d)
	c.finds(nil, d)
	c.ids(a, b, d)
	c.purge("b", 1, api.OK)
	c.ids(a, d)
	// In memory alone, in the store alone, in both, hidden behind memory, hidden.
	c = on(t, nil, 2*66, 4, []int{28}, -1)
	c.saves(a, b, d, f)
	c.purge("f", 1, api.ErrFault)
	c.ids(a, b, d)
	g := entry("g", "", 5)
	c.save(g, api.ErrRoom)
	c.ids(a, b, d, g)
	c.save(f, api.ErrRoom)
	c.ids(a, b, d, f, g)
	c.finds(nil, a)
	c.ids(a, b, d, f)
	c.finds(nil, b)
	c.ids(a, b, d)
	c.misses("f", nil)
}

func TestIdsRiseAsBytes(t *testing.T) {
	var list []api.Entry
	for _, key := range []string{"b", "a", "\xff", "A", "a\n", "aa", "\x00", "a\nb", "é", " ", "~", "10", "9"} {
		list = append(list, entry(key, "", 1), variant(key, "2", "", 1), variant(key, "10", "", 1))
	}
	for _, c := range []stand{alone(t, 1<<20), on(t, nil, 0, 100, nil, -1), on(t, nil, 1000, 100, nil, -1)} {
		c.saves(list...)
		c.ids(list...)
	}
}

// P1, P2

func TestLongLists(t *testing.T) {
	var list []api.Entry
	for i := range 300 {
		list = append(list, variant("http://ex.com/", strings.Repeat("v", i), strings.Repeat("b", i%7), i))
	}
	for _, c := range []stand{alone(t, 1<<20), on(t, nil, 3000, 4096, nil, -1)} {
		c.saves(list...)
		c.ids(list...)
		for _, i := range []int{1, 7, 150, 299} {
			c.finds(pairs("X", strings.Repeat("v", i)), list[i])
		}
		c.misses(strings.Repeat("k", 1<<20), pairs("X", strings.Repeat("v", 1<<16)))
		c.purge("http://ex.com/", 300, api.OK)
		c.ids()
	}
}

func TestCallsAnswerTheSameTwice(t *testing.T) {
	a, b := entry("a", "A", 1), variant("b", "1", "B", 2)
	one, two := over(t, 80, 17, 24), over(t, 80, 17, 24)
	for _, c := range []stand{one, two} {
		c.saves(a, b)
		c.finds(nil, a)
		c.finds(nil, a)
		c.finds(pairs("X", "1"), b)
		c.ids(a, b)
		c.ids(a, b)
		c.purge("a", 1, api.ErrFault)
		c.ids(b)
		c.ids(b)
		c.misses("a", nil)
		c.misses("a", nil)
	}
}

// Two caches have nothing in common but a store beneath them.
func TestCachesAreApart(t *testing.T) {
	a, b := entry("a", "", 1), entry("b", "", 2)
	one, two := alone(t, 1000), alone(t, 1000)
	one.saves(a)
	two.saves(b)
	one.ids(a)
	two.ids(b)
	one.purge("b", 0, api.OK)
	two.ids(b)
	one.misses("b", nil)
}
