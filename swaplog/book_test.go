package swaplog_test

import (
	"math/rand/v2"
	"slices"
	"strconv"
	"strings"
	"testing"

	"conduit/api"
	"conduit/disk"
	"conduit/swaplog"
)

// book is a log by the chapter's sentences, over a disk of its own. It notes the calls that it makes.
type book struct {
	d     *disk.Disk
	count int
	notes []string
}

func (k *book) call(words ...string) api.Errno {
	k.notes = append(k.notes, words[0]+" "+strings.Join(words[1:min(2, len(words))], ""))
	switch words[0] {
	case "Create":
		return k.d.Create(words[1])
	case "Append":
		return k.d.Append(words[1], []byte(words[2]))
	case "Sync":
		return k.d.Sync(words[1])
	case "Rename":
		return k.d.Rename(words[1], words[2])
	case "Remove":
		return k.d.Remove(words[1])
	}
	return k.d.SyncNames()
}

func (k *book) open() ([]api.Record, api.Errno) {
	if slices.Contains(k.d.List(), "log.new") {
		if e := k.call("Remove", "log.new"); e != 0 {
			return nil, e
		}
	}
	b, e := k.d.Read("log")
	if e == api.ErrNone {
		for _, words := range [][]string{{"Create", "log"}, {"Sync", "log"}, {"SyncNames"}} {
			if e := k.call(words...); e != 0 {
				return nil, e
			}
		}
		k.count = 0
		return nil, 0
	}
	if e != 0 {
		return nil, e
	}
	list, n := oracle(b)
	if n < len(b) {
		if e := k.rewrite(list); e != 0 {
			return nil, e
		}
	}
	k.count = len(list)
	return list, 0
}

// refusal: rec.Encode's error, whatever the Seq is.
func refusal(r api.Record) api.Errno {
	switch {
	case r.Op != 1 && r.Op != 2 || r.No < 0 || r.No > greatest:
		return api.ErrRecord
	case len(r.Id) > keyCap:
		return api.ErrLong
	}
	return 0
}

func (k *book) add(r api.Record) api.Errno {
	r.Seq = k.count
	if e := refusal(r); e != 0 {
		return e
	}
	if e := k.call("Append", "log", string(recordOf(r))); e != 0 {
		return e
	}
	k.count++
	return k.call("Sync", "log")
}

func (k *book) rewrite(list []api.Record) api.Errno {
	for _, r := range list {
		if e := refusal(r); e != 0 {
			return e
		}
	}
	if e := k.call("Create", "log.new"); e != 0 {
		return e
	}
	e := k.call("Append", "log.new", string(bytesOf(numbered(list...))))
	if e == 0 {
		e = k.call("Sync", "log.new")
	}
	if e == 0 {
		e = k.call("Rename", "log.new", "log")
	}
	if e != 0 {
		k.call("Remove", "log.new")
		return e
	}
	k.count = len(list)
	return k.call("SyncNames")
}

// all: everything that can be told of a disk.
func all(d *disk.Disk) string {
	words := []string{strconv.Itoa(d.Steps()), strconv.FormatBool(d.Down()), strconv.Itoa(d.Used()), shown(seen(d))}
	for names := range 6 {
		for _, n := range []int{0, 1, 17, 1 << 20} {
			words = append(words, shown(d.Left(api.Fate{Names: names, Keep: slices.Repeat([]int{n}, 12)})))
		}
	}
	return strings.Join(words, " | ")
}

// pair is a log, and a book over a disk that is like its disk.
type pair struct {
	d *disk.Disk
	l *swaplog.Log
	k *book
}

func newPair(t *testing.T, files []api.File, room int, fails []int, power int) *pair {
	t.Helper()
	return &pair{d: made(t, files, room, fails, power), k: &book{d: made(t, files, room, fails, power)}}
}

// alike: the answers, the Count and the disks are alike.
func (p *pair) alike(t *testing.T, what string, got, want api.Errno) {
	t.Helper()
	if got != want || p.l != nil && p.l.Count() != p.k.count {
		t.Fatalf("%s = %d, Count() = %d; want %d, %d; the calls are %q", what, got, p.count(), want, p.k.count, p.k.notes)
	}
	if got, want := all(p.d), all(p.k.d); got != want {
		t.Fatalf("behind %s the disk tells\n%.900q; want\n%.900q; the calls are %q", what, got, want, p.k.notes)
	}
}

func (p *pair) count() int {
	if p.l == nil {
		return 0
	}
	return p.l.Count()
}

func (p *pair) open(t *testing.T) {
	t.Helper()
	l, got, e := swaplog.Open(p.d)
	want, errno := p.k.open()
	if !slices.Equal(got, want) || (l == nil) != (e != api.OK) {
		t.Fatalf("Open = %v, %v, %d; want %v, %d", l, got, e, want, errno)
	}
	p.l = l
	p.alike(t, "Open", e, errno)
}

func (p *pair) add(t *testing.T, r api.Record) {
	t.Helper()
	p.alike(t, "Add", p.l.Add(r.Op, r.No, r.Id), p.k.add(r))
}

func (p *pair) rewrite(t *testing.T, list []api.Record) {
	t.Helper()
	p.alike(t, "Rewrite", p.l.Rewrite(list), p.k.rewrite(list))
}

// run: a life of a log, as far as it goes.
func (p *pair) run(t *testing.T) {
	t.Helper()
	if p.open(t); p.l == nil {
		return
	}
	p.add(t, add(1, "one"))
	p.add(t, drop(1, "one"))
	p.rewrite(t, withSeqs(5, 5, 0))
	p.add(t, add(2, ""))
	p.rewrite(t, nil)
	p.add(t, add(3, "three"))
}

// Just the calls that the chapter lists are made, in its order: a disk with power for each number of steps tells the same behind them.
func TestTheCallsAtEachStep(t *testing.T) {
	logs := [][]byte{nil, {}, bytesOf(some(2)), bytesOf(some(2))[:20], []byte("junk")}
	for _, log := range logs {
		for _, unfinished := range [][]byte{nil, {}, bytesOf(some(1))} {
			files := held(log, unfinished)
			p := newPair(t, files, 1_000, nil, -1)
			p.run(t)
			for n := range p.d.Steps() + 1 {
				newPair(t, files, 1_000, nil, n).run(t)
				newPair(t, files, 1_000, []int{n}, -1).run(t)
				// Two faults, or a fault and then the power, where what is done behind a failing call fails too.
				for m := max(1, n-5); m < n; m++ {
					newPair(t, files, 1_000, []int{m}, n).run(t)
					newPair(t, files, 1_000, []int{m, n}, -1).run(t)
				}
			}
			for room := range 150 {
				newPair(t, files, room, nil, -1).run(t)
			}
		}
	}
}

// anyRecord: one that is right, or now and then one that isn't.
func anyRecord(r *rand.Rand) api.Record {
	record := api.Record{Op: 1 + r.IntN(2), Seq: r.IntN(9) - 1, No: r.IntN(4), Id: strings.Repeat("id", r.IntN(4))}
	switch r.IntN(30) {
	case 0:
		record.Op = r.IntN(5) - 1
	case 1:
		record.No = greatest + r.IntN(2)
	case 2:
		record.No = -1
	case 3:
		record.Id = strings.Repeat("k", keyCap+1)
	}
	return record
}

func anyFails(r *rand.Rand) []int {
	var fails []int
	for range r.IntN(8) {
		fails = append(fails, 1+r.IntN(40))
	}
	return fails
}

// anyPair: over disks with these files, and with room, faults and power by chance.
func anyPair(t *testing.T, r *rand.Rand, files []api.File) *pair {
	t.Helper()
	room, power := 1_000, -1
	if r.IntN(3) == 0 {
		room = r.IntN(300)
	}
	if r.IntN(2) == 0 {
		power = r.IntN(40)
	}
	return newPair(t, files, room, anyFails(r), power)
}

// live: a life of a log by chance, with Opens in its midst.
func (p *pair) live(t *testing.T, r *rand.Rand) {
	t.Helper()
	p.open(t)
	for range r.IntN(12) {
		switch n := r.IntN(8); {
		case p.l == nil || n == 0:
			p.open(t)
		case n < 5:
			p.add(t, anyRecord(r))
		default:
			list := make([]api.Record, r.IntN(5))
			for i := range list {
				list[i] = anyRecord(r)
			}
			p.rewrite(t, list)
		}
	}
}

func TestLivesByChance(t *testing.T) {
	r := rand.New(rand.NewPCG(11, 2))
	for range 700 {
		var unfinished []byte
		if r.IntN(2) == 0 {
			unfinished = spoiled(r)
		}
		files := held(spoiled(r), unfinished)
		for range 3 {
			p := anyPair(t, r, files)
			p.live(t, r)
			files = p.d.Left(api.Fate{Names: r.IntN(5), Keep: []int{0, r.IntN(60), r.IntN(60), r.IntN(60), r.IntN(60), r.IntN(60), r.IntN(60)}})
		}
	}
}
