package swaplog_test

import (
	"bytes"
	"maps"
	"slices"
	"testing"

	"conduit/api"
	"conduit/disk"
	"conduit/swaplog"
)

// What a fault, the power or the room does at each step of Open, Add and Rewrite.

// Number 0 is "lo", 1 "log", if it is there at the beginning.
const logNumber = 1

// keeping: so many changes of names, and all bytes of the files of these numbers.
func keeping(names int, numbers ...int) api.Fate {
	keep := make([]int, 10)
	for _, n := range numbers {
		keep[n] = 1 << 20
	}
	return api.Fate{Names: names, Keep: keep}
}

func everything() api.Fate {
	return keeping(99, 0, 1, 2, 3, 4, 5, 6, 7, 8, 9)
}

func wantLeft(t *testing.T, d *disk.Disk, fate api.Fate, want []api.File) {
	t.Helper()
	if got := shown(d.Left(fate)); got != shown(want) {
		t.Errorf("behind %d steps is left %.200q; want %.200q", d.Steps(), got, shown(want))
	}
}

// P11.2 where there is no log: Create, Sync, SyncNames, with Remove ahead of them where there is an unfinished log.

func TestOpenWithoutALogFails(t *testing.T) {
	for _, unfinished := range unfinishedOnes() {
		first := 1 + oneIf(unfinished)
		for i, now := range [][]byte{nil, {}, {}} {
			d := made(t, held(nil, unfinished), 0, []int{first + i}, -1)
			wantNoLog(t, d, api.ErrFault, first+i)
			wantHeld(t, d, held(now, nil), held(nil, unfinished))
			// The next Open goes on with what is there.
			wantOpen(t, d, nil, 3*(1-oneIf(now)))
		}
	}
}

func TestPowerWithinOpenWithoutALog(t *testing.T) {
	for power, c := range []struct{ least, most []byte }{{nil, nil}, {nil, []byte{}}, {nil, []byte{}}} {
		d := made(t, held(nil, nil), 0, nil, power)
		wantNoLog(t, d, api.ErrPower, power)
		wantLeft(t, d, api.Fate{}, held(c.least, nil))
		wantLeft(t, d, everything(), held(c.most, nil))
	}
	d := made(t, held(nil, nil), 0, nil, 3)
	wantOpen(t, d, nil, 3)
	wantLeft(t, d, api.Fate{}, held([]byte{}, nil))
	unfinished := []byte("junk")
	for power, c := range []struct{ least, most []api.File }{
		{held(nil, unfinished), held(nil, unfinished)},
		{held(nil, unfinished), held(nil, nil)},
		{held(nil, unfinished), held([]byte{}, nil)},
		{held(nil, unfinished), held([]byte{}, nil)},
	} {
		d := made(t, held(nil, unfinished), 0, nil, power)
		wantNoLog(t, d, api.ErrPower, power)
		wantLeft(t, d, api.Fate{}, c.least)
		wantLeft(t, d, everything(), c.most)
	}
	d = made(t, held(nil, unfinished), 0, nil, 4)
	wantOpen(t, d, nil, 4)
	wantLeft(t, d, api.Fate{}, held([]byte{}, nil))
}

// P11.2 where there is a log: a failing Remove ends it, whatever the log is like.

func TestTheRemoveOfOpenFails(t *testing.T) {
	for _, log := range [][]byte{nil, {}, bytesOf(some(2)), bytesOf(some(2))[:20], []byte("junk")} {
		for _, unfinished := range unfinishedOnes()[1:] {
			d := made(t, held(log, unfinished), 1_000, []int{1}, -1)
			wantNoLog(t, d, api.ErrFault, 1)
			wantHeld(t, d, held(log, unfinished), held(log, unfinished))
			d = made(t, held(log, unfinished), 1_000, nil, 1)
			wantNoLog(t, d, api.ErrPower, 1)
			wantLeft(t, d, api.Fate{}, held(log, unfinished))
			wantLeft(t, d, everything(), held(log, nil))
		}
	}
}

func TestOpenWithThePowerOff(t *testing.T) {
	for _, log := range [][]byte{nil, {}, bytesOf(some(2)), bytesOf(some(2))[:20]} {
		for _, unfinished := range unfinishedOnes() {
			d := made(t, held(log, unfinished), 1_000, nil, 0)
			wantNoLog(t, d, api.ErrPower, 0)
			wantNoLog(t, d, api.ErrPower, 0)
			wantLeft(t, d, everything(), held(log, unfinished))
		}
	}
}

func TestASoundLogIsOpenedWithoutAStep(t *testing.T) {
	d := made(t, held(bytesOf(some(3)), nil), 0, []int{1, 2, 3, 4, 5, 6}, -1)
	wantOpen(t, d, some(3), 0)
}

// P11.2, P11.4: the log is rewritten within Open.

func TestTheRewritingOfOpenFails(t *testing.T) {
	list := some(2)
	whole := bytesOf(list)
	bad := append(bytesOf(list), "junk"...)
	for _, unfinished := range unfinishedOnes() {
		first := oneIf(unfinished)
		// Behind a failing Create there is no Remove; behind a failing Append, Sync and Rename there is one.
		for i, steps := range []int{1, 3, 4, 5} {
			d := made(t, held(bad, unfinished), 1_000, []int{first + i + 1}, -1)
			wantNoLog(t, d, api.ErrFault, first+steps)
			wantHeld(t, d, held(bad, nil), held(bad, unfinished))
			l := wantOpen(t, d, list, 5)
			wantAdd(t, d, l, add(1, "x"), api.OK, 2)
		}
		// Behind a failing SyncNames there is none either.
		d := made(t, held(bad, unfinished), 1_000, []int{first + 5}, -1)
		wantNoLog(t, d, api.ErrFault, first+5)
		wantHeld(t, d, held(whole, nil), held(bad, unfinished))
		wantOpen(t, d, list, 0)
	}
	// Whatever the Remove answers, the first error is told; the next Open finds the unfinished log.
	for i, left := range [][]byte{{}, whole, whole} {
		d := made(t, held(bad, nil), 1_000, []int{i + 2, i + 3}, -1)
		wantNoLog(t, d, api.ErrFault, i+3)
		wantHeld(t, d, held(bad, left), held(bad, nil))
		wantOpen(t, d, list, 6)
		wantHeld(t, d, held(whole, nil), held(whole, nil))
	}
}

func TestNoRoomForTheRewritingOfOpen(t *testing.T) {
	list := some(2)
	whole := bytesOf(list)
	bad := append(bytesOf(list), "junk"...)
	need := others + len(bad) + len(whole)
	for _, unfinished := range unfinishedOnes() {
		first := oneIf(unfinished)
		for _, room := range []int{0, need - 1} {
			d := made(t, held(bad, unfinished), room, nil, -1)
			wantNoLog(t, d, api.ErrFull, first+3)
			wantHeld(t, d, held(bad, nil), held(bad, unfinished))
			wantNoLog(t, d, api.ErrFull, 3)
			// Without room and with a Remove that fails, it is the missing room that is told.
			d = made(t, held(bad, unfinished), room, []int{first + 3}, -1)
			wantNoLog(t, d, api.ErrFull, first+3)
			wantHeld(t, d, held(bad, []byte{}), held(bad, unfinished))
			d = made(t, held(bad, unfinished), room, nil, first+2)
			wantNoLog(t, d, api.ErrFull, first+2)
			wantLeft(t, d, everything(), held(bad, []byte{}))
		}
		d := made(t, held(bad, unfinished), need, nil, -1)
		wantOpen(t, d, list, first+5)
	}
	// A log of which nothing is sound needs none.
	d := made(t, held([]byte("junk"), nil), 0, nil, -1)
	wantOpen(t, d, nil, 5)
	wantHeld(t, d, held([]byte{}, nil), held([]byte{}, nil))
}

// rewriting: what is left behind so many steps of a rewriting of one log to another, from least to most. The log's number is 1; that of the new one is told.
func rewriting(t *testing.T, d *disk.Disk, steps, number int, old, list []byte) {
	t.Helper()
	was := held(old, nil)
	switch steps {
	case 0:
		wantLeft(t, d, everything(), was)
	case 1:
		wantLeft(t, d, everything(), held(old, []byte{}))
	case 2:
		wantLeft(t, d, keeping(1), held(old, []byte{}))
		wantLeft(t, d, everything(), held(old, list))
		for n := range len(list) {
			fate := keeping(1)
			fate.Keep[number] = n
			wantLeft(t, d, fate, held(old, list[:n:n]))
		}
	case 3:
		wantLeft(t, d, keeping(1), held(old, list))
	case 4:
		wantLeft(t, d, keeping(1), held(old, list))
		wantLeft(t, d, keeping(2), held(list, nil))
	case 5:
		was = held(list, nil)
	}
	wantLeft(t, d, api.Fate{}, was)
}

func TestPowerWithinTheRewritingOfOpen(t *testing.T) {
	list := some(2)
	whole := bytesOf(list)
	bad := append(bytesOf(list), "junk"...)
	for power := range 5 {
		d := made(t, held(bad, nil), 1_000, nil, power)
		wantNoLog(t, d, api.ErrPower, power)
		rewriting(t, d, power, 4, bad, whole)
	}
	d := made(t, held(bad, nil), 1_000, nil, 5)
	wantOpen(t, d, list, 5)
	rewriting(t, d, 5, 4, bad, whole)
}

// P11.3: Append, Sync.

func TestAddFails(t *testing.T) {
	list := some(2)
	more := append(some(2), api.Record{Op: 1, Seq: 2, No: 4, Id: "more"})
	was, grown := held(bytesOf(list), nil), held(bytesOf(more), nil)
	d := made(t, was, 1_000, []int{1, 3}, -1)
	l := opened(t, d)
	// The Append fails: nothing has changed.
	wantAdd(t, d, l, add(4, "more"), api.ErrFault, 1)
	wantHeld(t, d, was, was)
	// The Sync fails: the record counts, but isn't safe.
	if e := l.Add(1, 4, "more"); e != api.ErrFault || l.Count() != 3 || d.Steps() != 3 {
		t.Errorf("Add = %d, Count() = %d, Steps() = %d", e, l.Count(), d.Steps())
	}
	wantHeld(t, d, grown, was)
	wantLeft(t, d, keeping(0, logNumber), grown)
	// The next one goes on behind it, and makes both safe.
	wantAdd(t, d, l, drop(4, "more"), api.OK, 2)
	more = append(more, api.Record{Op: 2, Seq: 3, No: 4, Id: "more"})
	grown = held(bytesOf(more), nil)
	wantHeld(t, d, grown, grown)
	wantOpen(t, d, more, 0)
}

func TestPowerWithinAdd(t *testing.T) {
	list := some(2)
	more := append(some(2), api.Record{Op: 1, Seq: 2, No: 4, Id: "more"})
	was, grown := held(bytesOf(list), nil), held(bytesOf(more), nil)
	d := made(t, held(bytesOf(list)[:len(bytesOf(list))-1], nil), 1_000, nil, 5)
	l := wantOpen(t, d, list[:1], 5)
	for range 2 {
		wantAdd(t, d, l, add(4, "more"), api.ErrPower, 0)
	}
	d = made(t, was, 1_000, nil, 1)
	l = opened(t, d)
	if e := l.Add(1, 4, "more"); e != api.ErrPower || l.Count() != 3 || d.Steps() != 1 {
		t.Errorf("Add = %d, Count() = %d, Steps() = %d", e, l.Count(), d.Steps())
	}
	wantLeft(t, d, api.Fate{}, was)
	wantLeft(t, d, everything(), grown)
	wantAdd(t, d, l, add(4, "more"), api.ErrPower, 0)
	wantRewrite(t, d, l, nil, api.ErrPower, 0, 3)
	d = made(t, was, 1_000, nil, 2)
	l = opened(t, d)
	wantAdd(t, d, l, add(4, "more"), api.OK, 2)
	wantLeft(t, d, api.Fate{}, grown)
	wantAdd(t, d, l, add(5, ""), api.ErrPower, 0)
}

func TestNoRoomForAdd(t *testing.T) {
	was := held(bytesOf(some(2)), nil)
	room := others + len(bytesOf(some(2))) + 17
	d := made(t, was, room, nil, -1)
	l := opened(t, d)
	wantAdd(t, d, l, add(1, "abc"), api.ErrFull, 1)
	wantAdd(t, d, l, add(1, "abc"), api.ErrFull, 1)
	wantHeld(t, d, was, was)
	wantAdd(t, d, l, add(1, "ab"), api.OK, 2)
	wantAdd(t, d, l, add(1, ""), api.ErrFull, 1)
	wantOpen(t, d, append(some(2), api.Record{Op: 1, Seq: 2, No: 1, Id: "ab"}), 0)
}

// P11.4: Create, Append, Sync, Rename, SyncNames.

func TestRewriteFails(t *testing.T) {
	old := some(2)
	was := held(bytesOf(old), nil)
	for _, list := range [][]api.Record{nil, some(1), some(2), some(5)} {
		for i, steps := range []int{1, 3, 4, 5} {
			d := made(t, was, 1_000, []int{i + 1}, -1)
			l := opened(t, d)
			wantRewrite(t, d, l, list, api.ErrFault, steps, 2)
			wantHeld(t, d, was, was)
			// The log goes on as if nothing had been.
			wantAdd(t, d, l, add(1, "x"), api.OK, 2)
			wantOpen(t, d, append(some(2), api.Record{Op: 1, Seq: 2, No: 1, Id: "x"}), 0)
			wantRewrite(t, d, l, list, api.OK, 5, len(list))
		}
		// Behind the Rename it is the new log that goes on.
		d := made(t, was, 1_000, []int{5}, -1)
		l := opened(t, d)
		wantRewrite(t, d, l, list, api.ErrFault, 5, len(list))
		now := append([]byte{}, bytesOf(list)...)
		wantHeld(t, d, held(now, nil), was)
		wantAdd(t, d, l, add(1, "x"), api.OK, 2)
		longer := append(slices.Clone(list), api.Record{Op: 1, Seq: len(list), No: 1, Id: "x"})
		wantHeld(t, d, held(bytesOf(longer), nil), was)
		wantRewrite(t, d, l, longer, api.OK, 5, len(longer))
		wantHeld(t, d, held(bytesOf(longer), nil), held(bytesOf(longer), nil))
	}
}

func TestTheRemoveOfRewriteFails(t *testing.T) {
	was := held(bytesOf(some(2)), nil)
	list := some(5)
	for i, left := range [][]byte{{}, bytesOf(list), bytesOf(list)} {
		d := made(t, was, 1_000, []int{i + 2, i + 3}, -1)
		l := opened(t, d)
		wantRewrite(t, d, l, list, api.ErrFault, i+3, 2)
		wantHeld(t, d, held(bytesOf(some(2)), left), was)
		// It is in the way of the next one, which hasn't made it and so doesn't remove it.
		wantRewrite(t, d, l, list, api.ErrExist, 1, 2)
		wantHeld(t, d, held(bytesOf(some(2)), left), was)
		wantAdd(t, d, l, add(1, "x"), api.OK, 2)
		l = wantOpen(t, d, append(some(2), api.Record{Op: 1, Seq: 2, No: 1, Id: "x"}), 1)
		wantRewrite(t, d, l, list, api.OK, 5, 5)
	}
}

func TestNoRoomForRewrite(t *testing.T) {
	old := some(2)
	was := held(bytesOf(old), nil)
	list := some(5)
	need := others + len(bytesOf(old)) + len(bytesOf(list))
	for _, room := range []int{0, len(bytesOf(list)), need - 1} {
		d := made(t, was, room, nil, -1)
		l := opened(t, d)
		wantRewrite(t, d, l, list, api.ErrFull, 3, 2)
		wantHeld(t, d, was, was)
		wantRewrite(t, d, l, nil, api.OK, 5, 0)
		wantHeld(t, d, held([]byte{}, nil), held([]byte{}, nil))
		d = made(t, was, room, []int{3}, -1)
		l = opened(t, d)
		wantRewrite(t, d, l, list, api.ErrFull, 3, 2)
		wantHeld(t, d, held(bytesOf(old), []byte{}), was)
	}
	d := made(t, was, need, nil, -1)
	l := opened(t, d)
	wantRewrite(t, d, l, list, api.OK, 5, 5)
	wantAdd(t, d, l, add(1, "x"), api.OK, 2)
}

func TestPowerWithinRewrite(t *testing.T) {
	old := some(2)
	was := bytesOf(old)
	for _, list := range [][]api.Record{nil, some(1), some(3)} {
		b := append([]byte{}, bytesOf(list)...)
		// Open itself needs the power, so it is one with steps that ends just ahead of the first call.
		d := made(t, held(nil, nil), 1_000, nil, 3)
		l := wantOpen(t, d, nil, 3)
		wantRewrite(t, d, l, list, api.ErrPower, 0, 0)
		wantLeft(t, d, everything(), held([]byte{}, nil))
		for power, count := range []int{1: 2, 2: 2, 3: 2, 4: len(list)} {
			if power == 0 {
				continue
			}
			d := made(t, held(was, nil), 1_000, nil, power)
			l := opened(t, d)
			wantRewrite(t, d, l, list, api.ErrPower, power, count)
			rewriting(t, d, power, 4, was, b)
			wantRewrite(t, d, l, list, api.ErrPower, 0, count)
			wantAdd(t, d, l, add(1, ""), api.ErrPower, 0)
		}
		d = made(t, held(was, nil), 1_000, nil, 5)
		l = opened(t, d)
		wantRewrite(t, d, l, list, api.OK, 5, len(list))
		rewriting(t, d, 5, 4, was, b)
	}
}

// P6: what a loss of power leaves is read as a beginning of what was written.

// eachLeft: all that a loss of power may leave of a disk with few pending changes, each once: up to so many unsafe bytes of one file at a time, and all of all files.
func eachLeft(d *disk.Disk, most int) [][]api.File {
	found := map[string][]api.File{}
	put := func(fate api.Fate) {
		files := d.Left(fate)
		found[shown(files)] = files
	}
	for names := range 7 {
		for number := range 7 {
			for n := range most + 1 {
				fate := keeping(names)
				fate.Keep[number] = n
				put(fate)
			}
		}
		put(keeping(names, 0, 1, 2, 3, 4, 5, 6, 7, 8, 9))
	}
	return slices.Collect(maps.Values(found))
}

// readBy: the records that a new Open finds in files.
func readBy(t *testing.T, files []api.File) []api.Record {
	t.Helper()
	l, list, e := swaplog.Open(made(t, files, 10_000, nil, -1))
	if l == nil || e != api.OK || l.Count() != len(list) {
		t.Fatalf("Open = %v, %d", l, e)
	}
	return list
}

// read: what a new Open finds in files is one of the lists.
func read(t *testing.T, files []api.File, lists ...[]api.Record) {
	t.Helper()
	got := readBy(t, files)
	if !slices.ContainsFunc(lists, func(list []api.Record) bool { return slices.Equal(got, list) }) {
		t.Errorf("of %.300q Open reads %v; want one of %v", shown(files), got, lists)
	}
	// Nor does a loss of power within that Open change it.
	for power := range 7 {
		d := made(t, files, 10_000, nil, power)
		swaplog.Open(d)
		for _, fate := range []api.Fate{{}, everything(), keeping(1), keeping(2), keeping(1, 4, 5)} {
			if again := readBy(t, d.Left(fate)); !slices.Equal(again, got) {
				t.Errorf("power for %d steps of an Open of %.300q: then Open reads %v; want %v", power, shown(files), again, got)
			}
		}
	}
}

func TestWhatPowerLeavesOfAdds(t *testing.T) {
	var list []api.Record
	for i := range 4 {
		list = append(list, api.Record{Op: 1 + i%2, Seq: i, No: i, Id: "id"})
	}
	for power := range 12 {
		d := made(t, nil, 10_000, nil, power)
		safe, most := 0, 0
		if l, _, e := swaplog.Open(d); e == api.OK {
			for _, r := range list {
				if l.Add(r.Op, r.No, r.Id) == api.OK {
					safe = l.Count()
				}
				most = l.Count()
			}
		}
		lists := [][]api.Record{}
		for n := safe; n <= most; n++ {
			lists = append(lists, list[:n])
		}
		for _, files := range eachLeft(d, 20) {
			read(t, files, lists...)
		}
		read(t, d.Left(api.Fate{}), list[:safe])
		read(t, d.Left(everything()), list[:most])
	}
}

func TestWhatPowerLeavesOfRewrite(t *testing.T) {
	old, list := some(3), numbered(add(9, "x"), drop(8, "yy"))
	longer := append(slices.Clone(list), api.Record{Op: 1, Seq: 2, No: 7, Id: "z"})
	// By the power, from 1 on: which lists may be read.
	for i, lists := range [][][]api.Record{{old}, {old}, {old}, {old, list}, {list}, {list, longer}, {longer}} {
		d := made(t, []api.File{{Name: "log", Data: bytesOf(old)}}, 10_000, nil, i+1)
		l := opened(t, d)
		if e := l.Rewrite(list); (e == api.OK) != (i+1 >= 5) {
			t.Errorf("power for %d steps: Rewrite = %d", i+1, e)
		}
		if e := l.Add(1, 7, "z"); (e == api.OK) != (i+1 >= 7) {
			t.Errorf("power for %d steps: Add = %d", i+1, e)
		}
		for _, files := range eachLeft(d, len(bytesOf(list))) {
			read(t, files, lists...)
		}
	}
}

func TestWhatPowerLeavesOfAnUnsoundLog(t *testing.T) {
	list := some(3)
	for _, part := range unsoundParts(3) {
		files := []api.File{{Name: "log", Data: append(bytesOf(list), part...)}, {Name: "log.new", Data: bytes.Repeat([]byte{193}, 40)}}
		for power := range 8 {
			d := made(t, files, 10_000, nil, power)
			swaplog.Open(d)
			for _, files := range eachLeft(d, 3) {
				read(t, files, list)
			}
		}
	}
}
