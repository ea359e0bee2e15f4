package cache_test

import (
	"fmt"
	"math"
	"math/rand/v2"
	"slices"
	"strings"
	"testing"

	"conduit/api"
	"conduit/cache"
	"conduit/disk"
	"conduit/store"
)

// keeper: what a cache can do.
type keeper interface {
	Save(e api.Entry) api.Errno
	Find(key string, ask []api.Field) (api.Entry, bool)
	Purge(key string) (int, api.Errno)
	Ids() []string
}

// shelf is a cache by the chapter's sentences, in plain lists, over a store of its own.
type shelf struct {
	room   int
	memory []held // the one that was used longest ago first
	store  *store.Store
	hidden []string
}

type held struct {
	id string
	e  api.Entry
}

func newShelf(s *store.Store, room int) *shelf {
	return &shelf{room: min(max(room, 0), 1<<30), store: s}
}

// place: where memory has the Id, or -1.
func (f *shelf) place(id string) int {
	return slices.IndexFunc(f.memory, func(h held) bool { return h.id == id })
}

// takeOut: memory has nothing under the Id.
func (f *shelf) takeOut(id string) {
	if i := f.place(id); i >= 0 {
		f.memory = slices.Delete(f.memory, i, i+1)
	}
}

// put: into memory, if it isn't too great; says whether it is there.
func (f *shelf) put(id string, e api.Entry) bool {
	if sizeOf(e) > f.room {
		return false
	}
	f.takeOut(id)
	f.memory = append(f.memory, held{id, e})
	for {
		used := 0
		for _, h := range f.memory {
			used += sizeOf(h.e)
		}
		if used <= f.room {
			return true
		}
		f.memory = f.memory[1:]
	}
}

func (f *shelf) inStore(id string) bool {
	return f.store != nil && slices.Contains(f.store.Ids(), id)
}

func (f *shelf) isHidden(id string) bool {
	return slices.Contains(f.hidden, id)
}

// show: the Id is hidden no more.
func (f *shelf) show(id string) {
	f.hidden = slices.DeleteFunc(f.hidden, func(other string) bool { return other == id })
}

// hideIfStored: the Id is hidden, if the store has it; else nothing is.
func (f *shelf) hideIfStored(id string) {
	f.show(id)
	if f.inStore(id) {
		f.hidden = append(f.hidden, id)
	}
}

// allIds: what memory or the store has.
func (f *shelf) allIds() []string {
	var ids []string
	if f.store != nil {
		ids = f.store.Ids()
	}
	for _, h := range f.memory {
		if !slices.Contains(ids, h.id) {
			ids = append(ids, h.id)
		}
	}
	slices.Sort(ids)
	return ids
}

func (f *shelf) entry(id string) (api.Entry, bool) {
	if i := f.place(id); i >= 0 {
		return f.memory[i].e, true
	}
	if f.store == nil {
		return api.Entry{}, false
	}
	return f.store.Get(id)
}

func (f *shelf) Save(e api.Entry) api.Errno {
	// The entries of the scripts are right, but for those without a key.
	if e.Key == "" {
		return api.ErrObject
	}
	if !f.put(idOf(e), e) {
		f.takeOut(idOf(e))
	}
	if f.store == nil {
		return api.OK
	}
	errno := f.store.Put(e)
	if errno == api.OK {
		f.show(idOf(e))
	} else {
		f.hideIfStored(idOf(e))
	}
	return errno
}

func (f *shelf) Ids() []string {
	var ids []string
	for _, id := range f.allIds() {
		if f.place(id) >= 0 || !f.isHidden(id) {
			ids = append(ids, id)
		}
	}
	return ids
}

// answers: does the entry answer a request whose X is this, if it has one ("-")? The scripts' entries have no Vary, or Vary: X.
func answers(e api.Entry, x string) bool {
	if len(e.Resp.Fields) == 0 {
		return e.Vary == ""
	}
	if x == "-" {
		return e.Vary == "x\n"
	}
	return e.Vary == "x:"+x+"\n"
}

func (f *shelf) Find(key string, ask []api.Field) (api.Entry, bool) {
	x := "-"
	if len(ask) > 0 {
		x = ask[0].Value
	}
	var fit []held
	for _, id := range f.Ids() {
		if e, found := f.entry(id); found && strings.HasPrefix(id, key+"\n") && e.Key == key && answers(e, x) {
			fit = append(fit, held{id, e})
		}
	}
	if len(fit) == 0 {
		return api.Entry{}, false
	}
	slices.SortStableFunc(fit, func(a, b held) int { return a.e.Got - b.e.Got })
	best := fit[len(fit)-1]
	if i := f.place(best.id); i >= 0 {
		f.memory = append(slices.Delete(f.memory, i, i+1), best)
	} else {
		f.put(best.id, best.e)
	}
	return best.e, true
}

func (f *shelf) Purge(key string) (int, api.Errno) {
	var ids []string
	for _, id := range f.allIds() {
		if e, found := f.entry(id); strings.HasPrefix(id, key+"\n") && (!found || e.Key == key) {
			ids = append(ids, id)
		}
	}
	var errors []api.Errno
	for _, id := range ids {
		f.takeOut(id)
		if f.inStore(id) {
			errors = append(errors, f.store.Drop(id))
		}
		f.hideIfStored(id)
	}
	for _, e := range errors {
		if e != api.OK {
			return len(ids), e
		}
	}
	return len(ids), api.OK
}

// move is one call, which tells in words what it answered.
type move struct {
	name string
	call func(k keeper) string
}

func save(e api.Entry) move {
	return move{fmt.Sprintf("Save(%.20q %d)", idOf(e), e.Got), func(k keeper) string { return fmt.Sprint(k.Save(e)) }}
}

func find(key, x string) move {
	var ask []api.Field
	if x != "-" {
		ask = pairs("X", x)
	}
	return move{fmt.Sprintf("Find(%q %q)", key, x), func(k keeper) string {
		e, found := k.Find(key, ask)
		return fmt.Sprint(show(e), found)
	}}
}

func purge(key string) move {
	return move{fmt.Sprintf("Purge(%q)", key), func(k keeper) string { return fmt.Sprint(k.Purge(key)) }}
}

// moves: calls about few keys that have to do with each other. The sizes are 66, 79, 80, and once 166.
func moves() []move {
	return []move{
		save(entry("a", "", 1)), save(entry("a", "Young", 3)), save(variant("a", "1", "", 2)), save(entry("a\nx:1", "same", 2)),
		save(entry("b", "", 1)), save(entry("b", strings.Repeat("x", 100), 2)), save(entry("", "", 1)),
		find("a", "-"), find("a", "1"), find("b", "-"), find("a\nx:1", "-"),
		purge("a"), purge("b"), purge("a\nx:1"),
	}
}

// table: what lies beneath a cache and how much it may keep in memory.
type table struct {
	room, slots int // below 0: without a store
	fails       []int
	power       int
}

// lay: a disk and a store as the table says; none, if it has none, or none can be opened.
func (b table) lay(t *testing.T) (*disk.Disk, *store.Store, bool) {
	t.Helper()
	if b.slots < 0 {
		return nil, nil, true
	}
	d, errno := disk.New(nil, 1<<20, b.fails, b.power)
	if errno != api.OK {
		t.Fatalf("disk.New = %d", errno)
	}
	s, errno := store.Open(d, b.slots)
	return d, s, errno == api.OK
}

// wantAsShelf: the calls answer as the second cache does, and leave the same Ids and the same disk.
func wantAsShelf(t *testing.T, b table, script []move) {
	t.Helper()
	d, s, opened := b.lay(t)
	d2, s2, _ := b.lay(t)
	if !opened {
		return
	}
	c, f := cache.New(s, b.room), newShelf(s2, b.room)
	for i, m := range script {
		got, want := m.call(c), m.call(f)
		if got != want {
			t.Fatalf("%v: behind %s: %s = %s; want %s", b, names(script[:i]), m.name, got, want)
		}
		if got, want := c.Ids(), f.Ids(); !slices.Equal(got, want) {
			t.Fatalf("%v: behind %s: Ids() = %q; want %q", b, names(script[:i+1]), got, want)
		}
	}
	if d != nil {
		wantSameDisk(t, b, script, d, d2)
	}
}

func wantSameDisk(t *testing.T, b table, script []move, one, other *disk.Disk) {
	t.Helper()
	if one.Steps() != other.Steps() {
		t.Fatalf("%v: %s makes %d steps; want %d", b, names(script), one.Steps(), other.Steps())
	}
	for _, fate := range []api.Fate{{}, {Names: math.MaxInt, Keep: slices.Repeat([]int{math.MaxInt}, 200)}} {
		if got, want := fmt.Sprintf("%q", one.Left(fate)), fmt.Sprintf("%q", other.Left(fate)); got != want {
			t.Fatalf("%v: behind %s the disk is left as %s; want %s", b, names(script), got, want)
		}
	}
}

func names(script []move) string {
	var all []string
	for _, m := range script {
		all = append(all, m.name)
	}
	return strings.Join(all, ", ")
}

// everyScript: all scripts of so many calls.
func everyScript(list []move, length int, each func(script []move)) {
	script := make([]move, length)
	var fill func(at int)
	fill = func(at int) {
		if at == length {
			each(script)
			return
		}
		for _, m := range list {
			script[at] = m
			fill(at + 1)
		}
	}
	fill(0)
}

func TestShortScripts(t *testing.T) {
	for length := range 4 {
		everyScript(moves(), length, func(script []move) {
			for _, room := range []int{0, 66, 80, 145, 160, 1000} {
				wantAsShelf(t, table{room: room, slots: -1}, script)
				wantAsShelf(t, table{room: room, slots: 9, power: -1}, script)
			}
			wantAsShelf(t, table{room: 80, slots: 1, power: -1}, script)
			wantAsShelf(t, table{room: 1000, slots: 2, power: -1}, script)
		})
	}
}

// Each of the steps, behind Open's three, as a fault and as the power's end.
func TestShortScriptsOverBadDisks(t *testing.T) {
	scripts := 0
	for length := 1; length < 4; length++ {
		everyScript(moves(), length, func(script []move) {
			// Of those of three calls some are enough.
			if scripts++; length == 3 && scripts%5 > 0 {
				return
			}
			for step := 4; step <= 3+7*length; step++ {
				for _, room := range []int{0, 80} {
					wantAsShelf(t, table{room: room, slots: 9, fails: []int{step}, power: -1}, script)
					wantAsShelf(t, table{room: room, slots: 9, power: step - 1}, script)
				}
			}
		})
	}
}

// randomScript: a script and a table of any kind.
func randomScript(random *rand.Rand, list []move) (table, []move) {
	b := table{room: []int{0, 66, 80, 145, 160, 240, 1000, math.MaxInt, math.MinInt}[random.IntN(9)], slots: random.IntN(6) - 1, power: -1}
	for range random.IntN(8) {
		b.fails = append(b.fails, 4+random.IntN(100))
	}
	if random.IntN(2) == 0 {
		b.power = 3 + random.IntN(150)
	}
	var script []move
	for range 1 + random.IntN(40) {
		script = append(script, list[random.IntN(len(list))])
	}
	return b, script
}

func TestLongScripts(t *testing.T) {
	random := rand.New(rand.NewPCG(20, 1))
	list := moves()
	for _, key := range []string{"a", "b", "a\n", "\n", "a\nx"} {
		for _, x := range []string{"-", "1", "", "2"} {
			e := variant(key, x, "body", 1+random.IntN(5))
			if x == "-" {
				e.Vary = "x\n"
			}
			list = append(list, save(e), find(key, x))
		}
		list = append(list, save(entry(key, "plain", 3)), purge(key))
	}
	for range 8000 {
		b, script := randomScript(random, list)
		wantAsShelf(t, b, script)
	}
}

func FuzzAsShelf(f *testing.F) {
	f.Add(80, 3, 12, 0, []byte{0, 2, 4, 7, 11})
	f.Add(66, -1, 0, 20, []byte{1, 3, 5, 9, 12, 8})
	f.Fuzz(func(t *testing.T, room, slots, fault, power int, calls []byte) {
		list := moves()
		var script []move
		for _, c := range calls[:min(len(calls), 60)] {
			script = append(script, list[int(c)%len(list)])
		}
		wantAsShelf(t, table{room, slots % 4097, []int{fault, fault + 1, fault + 9}, power}, script)
	})
}
