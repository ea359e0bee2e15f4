package store_test

import (
	"fmt"
	"math/rand/v2"
	"slices"
	"strconv"
	"strings"
	"testing"

	"conduit/api"
	"conduit/disk"
	"conduit/object"
	"conduit/store"
	"conduit/swaplog"
)

// register is a store by the chapter's sentences, over a disk of its own. It notes the calls that it makes.
type register struct {
	d     *disk.Disk
	l     *swaplog.Log
	slots int
	rows  []row
	notes []string
}

// row: an Id and the number that it has.
type row struct {
	id string
	no int
}

func (g *register) note(errno api.Errno, words ...any) api.Errno {
	g.notes = append(g.notes, fmt.Sprint(words...)+" "+strconv.Itoa(int(errno)))
	return errno
}

func (g *register) remove(name string) api.Errno {
	return g.note(g.d.Remove(name), "Remove ", name)
}

func (g *register) add(op, no int, id string) api.Errno {
	return g.note(g.l.Add(op, no, id), "Add ", op, " ", no)
}

func nameOf(no int) string {
	return fmt.Sprintf("o/%02x/%02x", no/64, no%64)
}

// numberOf: the number of an Id, or -1.
func (g *register) numberOf(id string) int {
	for _, r := range g.rows {
		if r.id == id {
			return r.no
		}
	}
	return -1
}

// set: the Id has the number; none, if it is below 0. The rows rise by their Ids.
func (g *register) set(id string, no int) {
	g.rows = slices.DeleteFunc(g.rows, func(r row) bool { return r.id == id })
	if no >= 0 {
		g.rows = append(g.rows, row{id, no})
	}
	slices.SortFunc(g.rows, func(a, b row) int { return strings.Compare(a.id, b.id) })
}

// stands: does a number stand in the table?
func (g *register) stands(no int) bool {
	return slices.ContainsFunc(g.rows, func(r row) bool { return r.no == no })
}

func (g *register) rewrite() api.Errno {
	var list []api.Record
	for _, r := range g.rows {
		list = append(list, api.Record{Op: 1, No: r.no, Id: r.id})
	}
	return g.note(g.l.Rewrite(list), "Rewrite ", len(list))
}

func (g *register) tidied() {
	if g.l.Count() > 2*len(g.rows)+16 {
		g.rewrite()
	}
}

// entryIn: the entry in a number's file.
func (g *register) entryIn(no int) (api.Entry, bool) {
	b, e := g.d.Read(nameOf(no))
	if e != 0 {
		return api.Entry{}, false
	}
	x, e := object.Decode(b)
	return x, e == 0
}

// open: whether there is a store, and the error.
func (g *register) open(slots int) api.Errno {
	g.l, g.slots, g.rows = nil, slots, nil
	if slots < 0 || slots > 4_096 {
		return api.ErrConfig
	}
	l, list, e := swaplog.Open(g.d)
	if g.note(e, "Open"); e != 0 {
		return e
	}
	g.l = l
	for _, r := range list {
		if r.Op == 1 {
			g.set(r.Id, r.No)
		} else {
			g.set(r.Id, -1)
		}
	}
	taken := false
	for _, r := range slices.Clone(g.rows) {
		if r.no < slots {
			if x, found := g.entryIn(r.no); found && object.Id(x.Key, x.Vary) == r.id {
				continue
			}
		}
		g.set(r.id, -1)
		taken = true
	}
	if taken {
		if e := g.rewrite(); e != 0 {
			return e
		}
	}
	for _, name := range g.d.List() {
		named := slices.ContainsFunc(g.rows, func(r row) bool { return nameOf(r.no) == name })
		if strings.HasPrefix(name, "o/") && !named {
			g.remove(name)
		}
	}
	g.tidied()
	return 0
}

func (g *register) put(x api.Entry) api.Errno {
	data, e := object.Encode(x)
	if e != 0 {
		return api.ErrObject
	}
	id := object.Id(x.Key, x.Vary)
	if len(id) > 4_096 {
		return api.ErrLong
	}
	no := 0
	for g.stands(no) {
		no++
	}
	if no >= g.slots {
		return api.ErrRoom
	}
	count, createdIt, e := g.l.Count(), false, api.OK
	for _, call := range []func() api.Errno{
		func() api.Errno {
			if slices.Contains(g.d.List(), nameOf(no)) {
				return g.remove(nameOf(no))
			}
			return 0
		},
		func() api.Errno {
			e := g.note(g.d.Create(nameOf(no)), "Create ", no)
			createdIt = e == 0
			return e
		},
		func() api.Errno { return g.note(g.d.Append(nameOf(no), data), "Append ", no) },
		func() api.Errno { return g.note(g.d.Sync(nameOf(no)), "Sync ", no) },
		func() api.Errno { return g.note(g.d.SyncNames(), "SyncNames") },
		func() api.Errno { return g.add(1, no, id) },
	} {
		if e = call(); e != 0 {
			break
		}
	}
	grown := g.l.Count() > count
	if e != 0 && !grown {
		if createdIt {
			g.remove(nameOf(no))
		}
		return e
	}
	if old := g.numberOf(id); old >= 0 {
		g.remove(nameOf(old))
	}
	g.set(id, no)
	g.tidied()
	return e
}

func (g *register) drop(id string) api.Errno {
	no := g.numberOf(id)
	if no < 0 {
		return api.ErrNone
	}
	count := g.l.Count()
	e := g.add(2, no, id)
	if g.l.Count() == count {
		return e
	}
	g.set(id, -1)
	g.remove(nameOf(no))
	g.tidied()
	return e
}

// much: what can be told of a disk at once.
func much(d *disk.Disk) string {
	words := []string{strconv.Itoa(d.Steps()), strconv.FormatBool(d.Down()), strconv.Itoa(d.Used()), shown(seen(d)), shown(d.Left(api.Fate{}))}
	return strings.Join(words, " | ")
}

// all: whatever a loss of power may leave of a disk.
func all(d *disk.Disk) string {
	var words []string
	for names := range 9 {
		for _, n := range []int{0, 20, 1 << 20} {
			words = append(words, shown(d.Left(api.Fate{Names: names, Keep: slices.Repeat([]int{n}, 60)})))
		}
	}
	return strings.Join(words, " | ")
}

// pair is a store, and a register over a disk that is like its disk.
type pair struct {
	d *disk.Disk
	s *store.Store
	g *register
}

func newPair(t *testing.T, files []api.File, room int, fails []int, power int) *pair {
	t.Helper()
	return &pair{d: made(t, files, room, fails, power), g: &register{d: made(t, files, room, fails, power)}}
}

// alike: the answers, the tables, the entries and the disks are alike.
func (p *pair) alike(t *testing.T, what string, got, want api.Errno) {
	t.Helper()
	if got != want {
		t.Fatalf("%s = %d; want %d; the calls are %q", what, got, want, p.g.notes)
	}
	if got, want := much(p.d), much(p.g.d); got != want {
		t.Fatalf("behind %s the disk tells\n%.900q; want\n%.900q; the calls are %q", what, got, want, p.g.notes)
	}
	if p.s == nil {
		return
	}
	var ids []string
	for _, r := range p.g.rows {
		ids = append(ids, r.id)
		x, found := p.s.Get(r.id)
		if y, had := p.g.entryIn(r.no); found != had || !alike(x, y) {
			t.Fatalf("behind %s Get(%q) = %.200v, %t; want %.200v, %t", what, r.id, x, found, y, had)
		}
	}
	if got := p.s.Ids(); !slices.Equal(got, ids) {
		t.Fatalf("behind %s Ids() = %q; want %q; the calls are %q", what, got, ids, p.g.notes)
	}
}

func (p *pair) open(t *testing.T, slots int) {
	t.Helper()
	s, e := store.Open(p.d, slots)
	want := p.g.open(slots)
	if (s == nil) != (e != api.OK) {
		t.Fatalf("Open = %v, %d", s, e)
	}
	p.s = s
	p.alike(t, "Open", e, want)
}

func (p *pair) put(t *testing.T, x api.Entry) {
	t.Helper()
	p.alike(t, "Put", p.s.Put(x), p.g.put(x))
}

func (p *pair) drop(t *testing.T, id string) {
	t.Helper()
	p.alike(t, "Drop", p.s.Drop(id), p.g.drop(id))
}

// leave: a loss of power would leave the same of both disks.
func (p *pair) leave(t *testing.T) {
	t.Helper()
	if got, want := all(p.d), all(p.g.d); got != want {
		t.Fatalf("at the end is left\n%.900q; want\n%.900q; the calls are %q", got, want, p.g.notes)
	}
}

// run: a life of a store, as far as it goes.
func (p *pair) run(t *testing.T, slots int) {
	t.Helper()
	defer p.leave(t)
	if p.open(t, slots); p.s == nil {
		return
	}
	p.put(t, entry("a", "", "1"))
	p.put(t, entry("b", "", "22"))
	p.put(t, entry("a", "", "333"))
	p.drop(t, "b\n")
	p.put(t, entry("c", "v", ""))
	p.drop(t, "b\n")
	p.put(t, entry("a", "", "4"))
	p.drop(t, "a\n")
}

// beginnings: what a disk may hold when a store is opened over it.
func beginnings() map[string][]api.File {
	a, b := entry("a", "", "old"), entry("b", "", "older")
	log := logOf(added(0, "a\n"), added(1, "b\n"))
	return map[string][]api.File{
		"nothing":    nil,
		"others":     {file("a", []byte("x")), file("o", []byte("y"))},
		"two":        {file("log", log), rowOf(0, a), rowOf(1, b)},
		"cut":        {file("log", log[:30]), file("log.new", log), rowOf(0, a), rowOf(1, b)},
		"lost":       {file("log", log), rowOf(1, b)},
		"spoiled":    {file("log", log), rowOf(0, a), file("o/00/01", []byte("spoiled"))},
		"strays":     {file("log", log), rowOf(0, a), rowOf(1, b), rowOf(2, a), file("o/x", nil)},
		"all":        {file("log", append(logOf(append(many(30), added(0, "a\n"), added(1, "b\n"))...), "junk"...)), rowOf(0, a), file("o/00/02", nil)},
		"long":       {file("log", logOf(many(20, a)...)), rowOf(0, a)},
		"nearly":     {file("log", logOf(many(15, a)...)), rowOf(0, a)},
		"not in use": {file("log", logOf(added(3, "a\n"))), rowOf(3, a)},
	}
}

// Just the calls that the chapter lists are made, in its order: a disk with power for each number of steps, or with faults at each, tells the same behind them.
func TestTheCallsAtEachStep(t *testing.T) {
	for what, files := range beginnings() {
		t.Run(what, func(t *testing.T) {
			t.Parallel()
			p := newPair(t, files, 2_000, nil, -1)
			p.run(t, 3)
			for n := range p.d.Steps() + 1 {
				newPair(t, files, 2_000, nil, n).run(t, 3)
				newPair(t, files, 2_000, []int{n}, -1).run(t, 3)
				// Two faults, or a fault and then the power, where what is done behind a failing call fails too.
				for m := max(1, n-6); m < n; m++ {
					newPair(t, files, 2_000, []int{m}, n).run(t, 3)
					newPair(t, files, 2_000, []int{m, n}, -1).run(t, 3)
				}
			}
			for _, slots := range []int{-1, 0, 1, 2, 4} {
				newPair(t, files, 2_000, nil, -1).run(t, slots)
			}
			for room := 0; room < 1_300; room += 17 {
				newPair(t, files, room, nil, -1).run(t, 3)
			}
		})
	}
}

// anyEntry: one of few Ids, or now and then one that is refused.
func anyEntry(r *rand.Rand) api.Entry {
	x := entry([]string{"a", "b", "c"}[r.IntN(3)], []string{"", "", "v"}[r.IntN(3)], strings.Repeat("x", r.IntN(9)))
	switch r.IntN(25) {
	case 0:
		x.Key = ""
	case 1:
		x.Vary = strings.Repeat("v", keyCap-r.IntN(3))
	case 2:
		x.Body = make([]byte, 65_536+r.IntN(2))
	}
	return x
}

// anyFiles: what a disk may hold, with much that is wrong in it.
func anyFiles(r *rand.Rand) []api.File {
	var list []api.Record
	for range r.IntN(25) {
		x := anyEntry(r)
		list = append(list, api.Record{Op: 1 + r.IntN(5)/4, No: r.IntN(5), Id: fmt.Sprintf("%.20s\n%.20s", x.Key, x.Vary)})
	}
	log := logOf(list...)
	if r.IntN(4) == 0 && len(log) > 0 {
		log[r.IntN(len(log))]++
	}
	files := []api.File{file("log", log)}
	for no := range 5 {
		switch r.IntN(5) {
		case 0:
		case 1:
			files = append(files, file(nameOf(no), []byte("junk")))
		default:
			files = append(files, rowOf(no, entry([]string{"a", "b", "c"}[r.IntN(3)], []string{"", "v"}[r.IntN(2)], "held")))
		}
	}
	if r.IntN(3) == 0 {
		files = append(files, file("o/stray", nil))
	}
	return files
}

func anyFails(r *rand.Rand) []int {
	var fails []int
	for range r.IntN(9) {
		fails = append(fails, 1+r.IntN(60))
	}
	return fails
}

// live: a life of a store by chance, with Opens in its midst.
func (p *pair) live(t *testing.T, r *rand.Rand, slots int) {
	t.Helper()
	defer p.leave(t)
	p.open(t, slots)
	for range r.IntN(40) {
		switch n := r.IntN(20); {
		case p.s == nil || n == 0:
			p.open(t, slots)
		case n < 13:
			p.put(t, anyEntry(r))
		default:
			x := anyEntry(r)
			p.drop(t, x.Key+"\n"+x.Vary)
		}
	}
}

func TestLivesByChance(t *testing.T) {
	for part := range 8 {
		t.Run(strconv.Itoa(part), func(t *testing.T) {
			t.Parallel()
			r := rand.New(rand.NewPCG(13, uint64(part)))
			for range 40 {
				files := anyFiles(r)
				for range 4 {
					room, power := 1<<20, -1
					if r.IntN(3) == 0 {
						room = r.IntN(1_000)
					}
					if r.IntN(2) == 0 {
						power = r.IntN(90)
					}
					p := newPair(t, files, room, anyFails(r), power)
					p.live(t, r, r.IntN(6))
					fate := api.Fate{Names: r.IntN(6)}
					for range 30 {
						fate.Keep = append(fate.Keep, r.IntN(150))
					}
					files = p.d.Left(fate)
				}
			}
		})
	}
}
