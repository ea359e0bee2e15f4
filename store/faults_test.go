package store_test

import (
	"maps"
	"slices"
	"strings"
	"testing"

	"conduit/api"
	"conduit/disk"
	"conduit/store"
)

// What a fault, the room or the power does at each step of Put, Drop and Open.

// held: a log with a's record, and a's file, which is of number 0.
func held() (api.Entry, []api.File) {
	a := entry("a", "", "old")
	return a, filed([]api.Record{added(0, "a\n")}, a)
}

// everything: all changes of names, and all bytes.
func everything() api.Fate {
	return api.Fate{Names: 99, Keep: slices.Repeat([]int{1 << 20}, 50)}
}

// wantLeft: what a loss of power leaves.
func wantLeft(t *testing.T, d *disk.Disk, fate api.Fate, want ...api.File) {
	t.Helper()
	if got := shown(d.Left(fate)); got != shown(sorted(want...)) {
		t.Errorf("behind %d steps is left %.400q; want %.400q", d.Steps(), got, shown(want))
	}
}

// P13.3: Create, Append, Sync, SyncNames, and Append and Sync of the log.

func TestPutFails(t *testing.T) {
	a, files := held()
	for _, e := range []api.Entry{entry("b", "", "new"), entry("a", "", "new")} {
		// Behind a failing Create there is no Remove; behind the others, up to the log's Append, there is one.
		for i, steps := range []int{1, 3, 4, 5, 6} {
			d := made(t, files, 10_000, []int{i + 1}, -1)
			s := wantOpen(t, d, 9, 0, a)
			wantPut(t, d, s, e, api.ErrFault, steps)
			wantEntries(t, s, a)
			wantSeen(t, d, files...)
			wantSafe(t, d, append(slices.Clone(files), safeOf(i, e)...)...)
			wantOpen(t, d, 9, 0, a)
			// The number is free again.
			again := 6
			if idOf(e) == "a\n" {
				again = 7
			}
			wantPut(t, d, s, e, api.OK, again)
			if got, found := s.Get(idOf(e)); !found || !alike(got, e) {
				t.Errorf("Get = %v, %t", got, found)
			}
		}
	}
}

// safeOf: what is safe of an entry's file where a fault ended its Put behind its SyncNames.
func safeOf(fault int, e api.Entry) []api.File {
	if fault < 4 {
		return nil
	}
	return []api.File{rowOf(1, e)}
}

// Where the log's Sync fails the entry counts all the same.
func TestTheSyncOfPutsRecordFails(t *testing.T) {
	a, files := held()
	b := entry("b", "", "new")
	d := made(t, files, 10_000, []int{6}, -1)
	s := wantOpen(t, d, 9, 0, a)
	wantPut(t, d, s, b, api.ErrFault, 6)
	wantEntries(t, s, a, b)
	grown := filed([]api.Record{added(0, "a\n"), added(1, "b\n")}, a, b)
	wantSeen(t, d, grown...)
	wantSafe(t, d, append(files, rowOf(1, b))...)
	wantLeft(t, d, everything(), grown...)
	wantOpen(t, d, 9, 0, a, b)
	wantPut(t, d, s, entry("c", "", ""), api.OK, 6)
	wantEntries(t, s, a, b, entry("c", "", ""))
	// With an Id that had a number: its file is removed.
	later := entry("a", "", "new")
	d = made(t, files, 10_000, []int{6}, -1)
	s = wantOpen(t, d, 9, 0, a)
	wantPut(t, d, s, later, api.ErrFault, 7)
	wantEntries(t, s, later)
	log := file("log", logOf(added(0, "a\n"), added(1, "a\n")))
	wantSeen(t, d, log, rowOf(1, later))
	wantSafe(t, d, append(files, rowOf(1, later))...)
	wantOpen(t, d, 9, 0, later)
	// Also if that fails as well.
	d = made(t, files, 10_000, []int{6, 7}, -1)
	s = wantOpen(t, d, 9, 0, a)
	wantPut(t, d, s, later, api.ErrFault, 7)
	wantEntries(t, s, later)
	wantSeen(t, d, log, rowOf(0, a), rowOf(1, later))
	// And the log is tidied.
	files = filed(many(18, a), a)
	d = made(t, files, 10_000, []int{6}, -1)
	s = wantOpen(t, d, 9, 0, a)
	wantPut(t, d, s, later, api.ErrFault, 12)
	wantEntries(t, s, later)
	now := []api.File{file("log", logOf(added(1, "a\n"))), rowOf(1, later)}
	wantSeen(t, d, now...)
	wantSafe(t, d, now...)
}

// Whatever the Remove behind an error answers, the first error is told.
func TestTheRemoveOfPutFails(t *testing.T) {
	a, files := held()
	b := entry("b", "", "new")
	for i, left := range [][]byte{1: {}, 2: fileOf(b), 3: fileOf(b), 4: fileOf(b)} {
		if i == 0 {
			continue
		}
		d := made(t, files, 10_000, []int{i + 1, i + 2}, -1)
		s := wantOpen(t, d, 9, 0, a)
		wantPut(t, d, s, b, api.ErrFault, i+2)
		wantEntries(t, s, a)
		wantSeen(t, d, append(files, file("o/00/01", left))...)
		// It lies where the next one comes.
		wantPut(t, d, s, entry("c", "", "3"), api.OK, 7)
		wantEntries(t, s, a, entry("c", "", "3"))
		// A full disk and a failing Remove: it is the missing room that is told.
		d = made(t, files, 0, []int{3}, -1)
		s = wantOpen(t, d, 9, 0, a)
		wantPut(t, d, s, b, api.ErrFull, 3)
		wantSeen(t, d, append(files, file("o/00/01", nil))...)
		wantOpen(t, d, 9, 1, a)
	}
}

// The Remove of a file that lies where the entry is to come: its error ends Put, and there is nothing to remove behind it.
func TestTheFirstRemoveOfPutFails(t *testing.T) {
	a, files := held()
	files = append(files, file("o/00/01", []byte("stray")))
	d := made(t, files, 10_000, []int{1, 2}, -1)
	s := wantOpen(t, d, 9, 1, a)
	wantPut(t, d, s, entry("b", "", "2"), api.ErrFault, 1)
	wantEntries(t, s, a)
	wantSeen(t, d, files...)
	// Behind it the Create fails: the file that lay there is gone.
	d = made(t, files, 10_000, []int{1, 3}, -1)
	s = wantOpen(t, d, 9, 1, a)
	wantPut(t, d, s, entry("b", "", "2"), api.ErrFault, 2)
	wantSeen(t, d, files[:2]...)
	wantPut(t, d, s, entry("b", "", "2"), api.OK, 6)
	// The power goes off ahead of it and behind it.
	d = made(t, files, 10_000, []int{1}, 1)
	s = opened(t, d, 9)
	wantPut(t, d, s, entry("b", "", "2"), api.ErrPower, 0)
	wantLeft(t, d, everything(), files...)
	d = made(t, files, 10_000, []int{1}, 2)
	s = opened(t, d, 9)
	wantPut(t, d, s, entry("b", "", "2"), api.ErrPower, 1)
	wantLeft(t, d, everything(), files[:2]...)
}

func TestNoRoomForPut(t *testing.T) {
	a, files := held()
	b := entry("b", "", "new")
	used := len(files[0].Data) + len(files[1].Data)
	record := len(logOf(added(1, "b\n")))
	for _, c := range []struct {
		room  int
		errno api.Errno
		steps int
	}{
		{0, api.ErrFull, 3}, {used, api.ErrFull, 3}, {used + len(fileOf(b)) - 1, api.ErrFull, 3},
		{used + len(fileOf(b)), api.ErrFull, 6}, {used + len(fileOf(b)) + record - 1, api.ErrFull, 6}, {used + len(fileOf(b)) + record, api.OK, 6},
	} {
		d := made(t, files, c.room, nil, -1)
		s := wantOpen(t, d, 9, 0, a)
		wantPut(t, d, s, b, c.errno, c.steps)
		if c.errno == api.OK {
			wantEntries(t, s, a, b)
			wantOpen(t, d, 9, 0, a, b)
			continue
		}
		wantEntries(t, s, a)
		wantSeen(t, d, files...)
		wantPut(t, d, s, b, c.errno, c.steps)
		wantOpen(t, d, 9, 0, a)
	}
}

func TestPowerWithinPut(t *testing.T) {
	a, files := held()
	b := entry("b", "", "new")
	half := api.Fate{Names: 9, Keep: []int{10, 10, 10}}
	for power, c := range []struct{ most, half, least []api.File }{
		1: {[]api.File{file("o/00/01", nil)}, []api.File{file("o/00/01", nil)}, nil},
		2: {[]api.File{rowOf(1, b)}, []api.File{file("o/00/01", fileOf(b)[:10])}, nil},
		3: {[]api.File{rowOf(1, b)}, []api.File{rowOf(1, b)}, nil},
		4: {[]api.File{rowOf(1, b)}, []api.File{rowOf(1, b)}, []api.File{rowOf(1, b)}},
	} {
		if power == 0 {
			continue
		}
		d := made(t, files, 10_000, nil, power)
		s := wantOpen(t, d, 9, 0, a)
		wantPut(t, d, s, b, api.ErrPower, power)
		if got := s.Ids(); !slices.Equal(got, []string{"a\n"}) {
			t.Errorf("Ids() = %q", got)
		}
		wantLeft(t, d, everything(), append(c.most, files...)...)
		wantLeft(t, d, half, append(c.half, files...)...)
		wantLeft(t, d, api.Fate{}, append(c.least, files...)...)
		wantPut(t, d, s, b, api.ErrPower, 0)
		wantDrop(t, d, s, "a\n", api.ErrPower, 0)
	}
	// Behind the log's Append it counts, here and perhaps later.
	d := made(t, files, 10_000, nil, 5)
	s := wantOpen(t, d, 9, 0, a)
	wantPut(t, d, s, b, api.ErrPower, 5)
	if got := s.Ids(); !slices.Equal(got, []string{"a\n", "b\n"}) {
		t.Errorf("Ids() = %q", got)
	}
	grown := filed([]api.Record{added(0, "a\n"), added(1, "b\n")}, a, b)
	wantLeft(t, d, everything(), grown...)
	wantLeft(t, d, half, file("log", grown[0].Data[:len(files[0].Data)+10]), rowOf(0, a), rowOf(1, b))
	wantLeft(t, d, api.Fate{}, append(files, rowOf(1, b))...)
	d = made(t, files, 10_000, nil, 6)
	s = wantOpen(t, d, 9, 0, a)
	wantPut(t, d, s, b, api.OK, 6)
	wantLeft(t, d, api.Fate{}, grown...)
	wantPut(t, d, s, b, api.ErrPower, 0)
}

// P13.4: Append and Sync of the log, Remove.

func TestDropFails(t *testing.T) {
	a, files := held()
	log := file("log", logOf(added(0, "a\n"), dropped(0, "a\n")))
	// The log's Append fails: nothing has changed.
	d := made(t, files, 10_000, []int{1}, -1)
	s := wantOpen(t, d, 9, 0, a)
	wantDrop(t, d, s, "a\n", api.ErrFault, 1)
	wantEntries(t, s, a)
	wantSeen(t, d, files...)
	wantOpen(t, d, 9, 0, a)
	wantDrop(t, d, s, "a\n", api.OK, 3)
	wantEntries(t, s)
	// Its Sync fails: the Id is gone, though that may not be safe.
	d = made(t, files, 10_000, []int{2}, -1)
	s = wantOpen(t, d, 9, 0, a)
	wantDrop(t, d, s, "a\n", api.ErrFault, 3)
	wantEntries(t, s)
	wantSeen(t, d, log)
	wantSafe(t, d, files...)
	wantDrop(t, d, s, "a\n", api.ErrNone, 0)
	// The Remove fails: that doesn't matter.
	d = made(t, files, 10_000, []int{3}, -1)
	s = wantOpen(t, d, 9, 0, a)
	wantDrop(t, d, s, "a\n", api.OK, 3)
	wantEntries(t, s)
	wantNothing(t, s, "a\n")
	wantSeen(t, d, log, rowOf(0, a))
	wantSafe(t, d, log, rowOf(0, a))
	wantDrop(t, d, s, "a\n", api.ErrNone, 0)
	wantOpen(t, d, 9, 1)
	wantSeen(t, d, log)
	// Both fail.
	d = made(t, files, 10_000, []int{2, 3}, -1)
	s = wantOpen(t, d, 9, 0, a)
	wantDrop(t, d, s, "a\n", api.ErrFault, 3)
	wantEntries(t, s)
	wantSeen(t, d, log, rowOf(0, a))
}

func TestNoRoomForDrop(t *testing.T) {
	a, files := held()
	used := len(files[0].Data) + len(files[1].Data)
	record := len(logOf(dropped(0, "a\n")))
	for _, room := range []int{0, used, used + record - 1} {
		d := made(t, files, room, nil, -1)
		s := wantOpen(t, d, 9, 0, a)
		wantDrop(t, d, s, "a\n", api.ErrFull, 1)
		wantEntries(t, s, a)
		wantSeen(t, d, files...)
	}
	d := made(t, files, used+record, nil, -1)
	s := wantOpen(t, d, 9, 0, a)
	wantDrop(t, d, s, "a\n", api.OK, 3)
	wantEntries(t, s)
}

func TestPowerWithinDrop(t *testing.T) {
	a, files := held()
	log := file("log", logOf(added(0, "a\n"), dropped(0, "a\n")))
	// Open needs the power, so it is a Put that ends just ahead of the first call.
	d := made(t, nil, 10_000, nil, 9)
	s := opened(t, d, 9)
	wantPut(t, d, s, a, api.OK, 6)
	wantDrop(t, d, s, "a\n", api.ErrPower, 0)
	if got := s.Ids(); !slices.Equal(got, []string{"a\n"}) {
		t.Errorf("Ids() = %q", got)
	}
	wantLeft(t, d, everything(), files...)
	for power, c := range []struct {
		errno       api.Errno
		most, least []api.File
	}{
		1: {api.ErrPower, []api.File{log, rowOf(0, a)}, files},
		2: {api.OK, []api.File{log, rowOf(0, a)}, []api.File{log, rowOf(0, a)}},
		3: {api.OK, []api.File{log}, []api.File{log, rowOf(0, a)}},
	} {
		if power == 0 {
			continue
		}
		d := made(t, files, 10_000, nil, power)
		s := wantOpen(t, d, 9, 0, a)
		wantDrop(t, d, s, "a\n", c.errno, power)
		wantEntries(t, s)
		wantLeft(t, d, everything(), c.most...)
		wantLeft(t, d, api.Fate{}, c.least...)
		wantDrop(t, d, s, "a\n", api.ErrNone, 0)
	}
}

// What the tidying answers isn't told by Put and Drop.
func TestTheTidyingFails(t *testing.T) {
	a, _ := held()
	files := filed(many(18, a), a)
	later := entry("a", "", "new")
	put := append(many(18, a), added(1, "a\n"))
	drop := append(many(18, a), dropped(0, "a\n"))
	for i, steps := range []int{1, 3, 4, 5} {
		d := made(t, files, 10_000, []int{8 + i}, -1)
		s := wantOpen(t, d, 9, 0, a)
		wantPut(t, d, s, later, api.OK, 7+steps)
		wantEntries(t, s, later)
		wantSeen(t, d, file("log", logOf(put...)), rowOf(1, later))
		// The next call tries it again.
		wantPut(t, d, s, a, api.OK, 12)
		wantSeen(t, d, file("log", logOf(added(0, "a\n"))), rowOf(0, a))
		d = made(t, files, 10_000, []int{4 + i}, -1)
		s = wantOpen(t, d, 9, 0, a)
		wantDrop(t, d, s, "a\n", api.OK, 3+steps)
		wantEntries(t, s)
		wantSeen(t, d, file("log", logOf(drop...)))
		wantOpen(t, d, 9, 5)
	}
	// Behind the Rename it is the new log that goes on.
	d := made(t, files, 10_000, []int{12}, -1)
	s := wantOpen(t, d, 9, 0, a)
	wantPut(t, d, s, later, api.OK, 12)
	wantSeen(t, d, file("log", logOf(added(1, "a\n"))), rowOf(1, later))
	wantPut(t, d, s, a, api.OK, 7)
	// No room for it.
	used := 0
	for _, f := range files {
		used += len(f.Data)
	}
	d = made(t, files, used+len(logOf(dropped(0, "a\n"))), nil, -1)
	s = wantOpen(t, d, 9, 0, a)
	wantDrop(t, d, s, "a\n", api.OK, 8)
	wantSeen(t, d, file("log", nil))
	// The power goes off within it.
	for power := 7; power < 13; power++ {
		d := made(t, files, 10_000, nil, power)
		s := wantOpen(t, d, 9, 0, a)
		wantPut(t, d, s, later, api.OK, min(power, 12))
		for _, fate := range []api.Fate{{}, everything(), {Names: 1}, {Names: 2}} {
			wantEntries(t, opened(t, made(t, d.Left(fate), 10_000, nil, -1), 9), later)
		}
	}
}

// P13.2: the rewriting where an Id was taken out. Its error ends Open.

func TestTheRewritingOfOpenFails(t *testing.T) {
	a, b := entry("a", "", "1"), entry("b", "", "2")
	log := file("log", logOf(added(0, "a\n"), added(1, "b\n")))
	files := []api.File{log, rowOf(1, b), file("o/00/02", []byte("stray"))}
	for i, steps := range []int{1, 3, 4, 5} {
		d := made(t, files, 10_000, []int{i + 1}, -1)
		wantNoStore(t, d, 9, api.ErrFault, steps)
		// The stray isn't removed.
		wantSeen(t, d, files...)
		wantOpen(t, d, 9, 6, b)
	}
	d := made(t, files, 10_000, []int{5}, -1)
	wantNoStore(t, d, 9, api.ErrFault, 5)
	rewritten := file("log", logOf(added(1, "b\n")))
	wantSeen(t, d, rewritten, files[1], files[2])
	wantOpen(t, d, 9, 1, b)
	d = made(t, files, 10, nil, -1)
	wantNoStore(t, d, 9, api.ErrFull, 3)
	wantSeen(t, d, files...)
	for power := 1; power < 5; power++ {
		d := made(t, files, 10_000, nil, power)
		wantNoStore(t, d, 9, api.ErrPower, power)
		for _, fate := range []api.Fate{{}, everything(), {Names: 1}, {Names: 2}} {
			wantEntries(t, opened(t, made(t, d.Left(fate), 10_000, nil, -1), 9), b)
		}
	}
	d = made(t, files, 10_000, nil, 5)
	if s, e := store.Open(d, 9); s == nil || e != api.OK || !slices.Equal(s.Ids(), []string{"b\n"}) {
		t.Errorf("Open = %v, %d", s, e)
	}
	wantLeft(t, d, everything(), rewritten, files[1], files[2])
	// The log is rewritten by its own layer, and then the power is off: no file can be read.
	d = made(t, []api.File{file("log", append(log.Data, "junk"...)), rowOf(0, a), rowOf(1, b)}, 10_000, nil, 5)
	wantNoStore(t, d, 9, api.ErrPower, 5)
	wantEntries(t, opened(t, made(t, d.Left(api.Fate{}), 10_000, nil, -1), 9), a, b)
}

// P6: behind a loss of power what is stored is whole entries alone, each as it was stored; what was told as dropped stays away.

// eachLeft: all that a loss of power may leave of a disk with few pending changes, each once.
func eachLeft(d *disk.Disk) [][]api.File {
	found := map[string][]api.File{}
	for names := range 8 {
		for _, n := range []int{0, 1, 16, 17, 40, 1 << 20} {
			for number := range 8 {
				keep := make([]int, 50)
				keep[number] = n
				files := d.Left(api.Fate{Names: names, Keep: keep})
				found[shown(files)] = files
			}
			files := d.Left(api.Fate{Names: names, Keep: slices.Repeat([]int{n}, 50)})
			found[shown(files)] = files
		}
	}
	return slices.Collect(maps.Values(found))
}

// hope: which bodies an Id may have; "" where it may be away.
type hope map[string][]string

// told: what an answer makes of the bodies that an Id may have.
func (h hope) told(id, body string, errno api.Errno) {
	if errno == api.OK {
		h[id] = []string{body}
		return
	}
	h[id] = append(h[id], body)
}

// kept: what a new Open finds in files is what was hoped for.
func (h hope) kept(t *testing.T, files []api.File) {
	t.Helper()
	s := opened(t, made(t, files, 10_000, nil, -1), 9)
	for id, bodies := range h {
		e, found := s.Get(id)
		if !slices.Contains(bodies, string(e.Body)) || found && !alike(e, entry(strings.TrimSuffix(id, "\n"), "", string(e.Body))) {
			t.Errorf("of %.300q is read %.200v for %q; want one of %q", shown(files), e, id, bodies)
		}
	}
	for _, id := range s.Ids() {
		if _, found := s.Get(id); !found || h[id] == nil {
			t.Errorf("of %.300q is read %q, and there is no entry", shown(files), id)
		}
	}
}

// after: also behind a loss of power within the Open that follows.
func (h hope) after(t *testing.T, d *disk.Disk) {
	t.Helper()
	for _, files := range eachLeft(d) {
		h.kept(t, files)
		for power := range 12 {
			again := made(t, files, 10_000, nil, power)
			store.Open(again, 9)
			for _, fate := range []api.Fate{{}, everything(), {Names: 1}, {Names: 2}, {Names: 3, Keep: slices.Repeat([]int{9}, 50)}} {
				h.kept(t, again.Left(fate))
			}
			if !again.Down() {
				break
			}
		}
	}
}

func TestWhatPowerLeaves(t *testing.T) {
	for power := range 40 {
		d := made(t, nil, 10_000, nil, power)
		h := hope{"a\n": {""}, "b\n": {""}}
		s, e := store.Open(d, 9)
		if e == api.OK {
			h.told("a\n", "1", s.Put(entry("a", "", "1")))
			h.told("b\n", "2", s.Put(entry("b", "", "2")))
			h.told("a\n", "3", s.Put(entry("a", "", "3")))
			h.told("b\n", "", dropOf(s, "b\n"))
			h.told("a\n", "4", s.Put(entry("a", "", "4")))
			h.told("b\n", "5", s.Put(entry("b", "", "5")))
			h.told("a\n", "", dropOf(s, "a\n"))
		}
		h.after(t, d)
	}
}

// dropOf: Drop's answer; OK, if there is nothing to drop.
func dropOf(s *store.Store, id string) api.Errno {
	if e := s.Drop(id); e != api.ErrNone {
		return e
	}
	return api.OK
}

// Within the tidying too, and where faults came ahead of it.
func TestWhatPowerLeavesOfATidiedLog(t *testing.T) {
	a := entry("a", "", "1")
	files := filed(many(18, a), a)
	for power := 1; power < 30; power++ {
		for _, fails := range [][]int{nil, {3}, {6}, {7}, {8, 9}, {11}, {12}} {
			d := made(t, files, 10_000, fails, power)
			h := hope{"a\n": {"1"}, "b\n": {""}, "gone\n": {""}}
			s, e := store.Open(d, 9)
			if e != api.OK {
				t.Fatal(e)
			}
			h.told("a\n", "2", s.Put(entry("a", "", "2")))
			h.told("b\n", "3", s.Put(entry("b", "", "3")))
			h.told("a\n", "", dropOf(s, "a\n"))
			for _, files := range eachLeft(d) {
				h.kept(t, files)
			}
		}
	}
}
