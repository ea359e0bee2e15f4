package store_test

import (
	"bytes"
	"fmt"
	"math"
	"reflect"
	"slices"
	"strconv"
	"strings"
	"testing"

	"conduit/api"
	"conduit/disk"
	"conduit/object"
	"conduit/rec"
	"conduit/store"
)

// slotCap, keyCap: the limits as the document says them.
const (
	slotCap = 4_096
	keyCap  = 4_096
)

// entry: one of this key, variant and body.
func entry(key, vary, body string) api.Entry {
	return api.Entry{
		Key: key, Vary: vary,
		Resp:  api.Response{Status: 200, Reason: "OK", Minor: 1, Fields: []api.Field{{Name: "A", Value: "b"}, {Name: "Age", Value: "7"}}},
		Body:  []byte(body),
		Asked: 1_000 + len(body), Got: 2_000 + len(key),
	}
}

// idOf: an entry's Id, by the words of layer 12.
func idOf(e api.Entry) string {
	return e.Key + "\n" + e.Vary
}

// fileOf: an entry's bytes.
func fileOf(e api.Entry) []byte {
	b, errno := object.Encode(e)
	if errno != api.OK {
		panic(errno)
	}
	return b
}

func added(no int, id string) api.Record   { return api.Record{Op: 1, No: no, Id: id} }
func dropped(no int, id string) api.Record { return api.Record{Op: 2, No: no, Id: id} }

// logOf: the bytes of a log with these records.
func logOf(list ...api.Record) []byte {
	all := []byte{}
	for i, r := range list {
		r.Seq = i
		b, errno := rec.Encode(r)
		if errno != api.OK {
			panic(errno)
		}
		all = append(all, b...)
	}
	return all
}

// file: a file of this name and these bytes.
func file(name string, data []byte) api.File {
	return api.File{Name: name, Data: data}
}

// rowOf: the file of a number, with an entry.
func rowOf(no int, e api.Entry) api.File {
	return file(fmt.Sprintf("o/%02x/%02x", no/64, no%64), fileOf(e))
}

// sorted: the files by rising names.
func sorted(files ...api.File) []api.File {
	return slices.SortedFunc(slices.Values(files), func(a, b api.File) int { return strings.Compare(a.Name, b.Name) })
}

func made(t *testing.T, files []api.File, room int, fails []int, power int) *disk.Disk {
	t.Helper()
	d, e := disk.New(files, room, fails, power)
	if d == nil || e != api.OK {
		t.Fatalf("New = %v, %d", d, e)
	}
	return d
}

// plain: a disk with these files on which nothing goes wrong.
func plain(t *testing.T, files ...api.File) *disk.Disk {
	t.Helper()
	return made(t, sorted(files...), 1<<30, nil, -1)
}

func opened(t *testing.T, d *disk.Disk, slots int) *store.Store {
	t.Helper()
	s, e := store.Open(d, slots)
	if s == nil || e != api.OK {
		t.Fatalf("Open = %v, %d", s, e)
	}
	return s
}

// wantOpen: Open answers a store with these entries, and makes so many steps.
func wantOpen(t *testing.T, d *disk.Disk, slots, steps int, want ...api.Entry) *store.Store {
	t.Helper()
	before := d.Steps()
	s := opened(t, d, slots)
	if n := d.Steps() - before; n != steps {
		t.Errorf("Open makes %d steps; want %d", n, steps)
	}
	wantEntries(t, s, want...)
	return s
}

// wantNoStore: Open answers an error and nothing else, and makes so many steps.
func wantNoStore(t *testing.T, d *disk.Disk, slots int, errno api.Errno, steps int) {
	t.Helper()
	before := d.Steps()
	if s, e := store.Open(d, slots); s != nil || e != errno || d.Steps()-before != steps {
		t.Errorf("Open = %v, %d, %d steps; want %d, %d steps", s, e, d.Steps()-before, errno, steps)
	}
}

// wantEntries: the store has just these entries.
func wantEntries(t *testing.T, s *store.Store, want ...api.Entry) {
	t.Helper()
	var ids []string
	for _, e := range want {
		ids = append(ids, idOf(e))
		if got, found := s.Get(idOf(e)); !found || !alike(got, e) {
			t.Errorf("Get(%.40q) = %.200v, %t; want %.200v", idOf(e), got, found, e)
		}
	}
	slices.Sort(ids)
	if got := s.Ids(); !slices.Equal(got, ids) {
		t.Errorf("Ids() = %.300q; want %.300q", got, ids)
	}
}

// alike: are the entries the same, where a nil list is an empty one?
func alike(one, other api.Entry) bool {
	return bytes.Equal(one.Body, other.Body) && slices.Equal(one.Resp.Fields, other.Resp.Fields) && reflect.DeepEqual(bare(one), bare(other))
}

// bare: the entry without its lists.
func bare(e api.Entry) api.Entry {
	e.Body, e.Resp.Fields = nil, nil
	return e
}

// wantNothing: the Id isn't there.
func wantNothing(t *testing.T, s *store.Store, id string) {
	t.Helper()
	if e, found := s.Get(id); found || !reflect.DeepEqual(e, api.Entry{}) && !alike(e, api.Entry{}) {
		t.Errorf("Get(%.40q) = %.200v, %t; want nothing", id, e, found)
	}
}

// wantPut: Put answers this error, and makes so many steps.
func wantPut(t *testing.T, d *disk.Disk, s *store.Store, e api.Entry, errno api.Errno, steps int) {
	t.Helper()
	before := d.Steps()
	if got := s.Put(e); got != errno || d.Steps()-before != steps {
		t.Errorf("Put of %.40q = %d, %d steps; want %d, %d steps", idOf(e), got, d.Steps()-before, errno, steps)
	}
}

// wantDrop: Drop answers this error, and makes so many steps.
func wantDrop(t *testing.T, d *disk.Disk, s *store.Store, id string, errno api.Errno, steps int) {
	t.Helper()
	before := d.Steps()
	if got := s.Drop(id); got != errno || d.Steps()-before != steps {
		t.Errorf("Drop(%.40q) = %d, %d steps; want %d, %d steps", id, got, d.Steps()-before, errno, steps)
	}
}

func shown(files []api.File) string {
	var words []string
	for _, f := range files {
		words = append(words, f.Name+"="+string(f.Data))
	}
	return strings.Join(words, " ")
}

// seen: the disk's files while the power is on.
func seen(d *disk.Disk) []api.File {
	var files []api.File
	for _, name := range d.List() {
		b, _ := d.Read(name)
		files = append(files, api.File{Name: name, Data: b})
	}
	return files
}

// wantSeen: what the disk holds.
func wantSeen(t *testing.T, d *disk.Disk, want ...api.File) {
	t.Helper()
	if got := shown(seen(d)); got != shown(sorted(want...)) {
		t.Errorf("the disk holds %.600q; want %.600q", got, shown(want))
	}
}

// wantSafe: what no loss of power takes away.
func wantSafe(t *testing.T, d *disk.Disk, want ...api.File) {
	t.Helper()
	if got := shown(d.Left(api.Fate{})); got != shown(sorted(want...)) {
		t.Errorf("safe is %.600q; want %.600q", got, shown(want))
	}
}

// P13.1: Path

func TestPath(t *testing.T) {
	for no, want := range map[int]string{
		-1: "", 0: "o/00/00", 1: "o/00/01", 9: "o/00/09", 10: "o/00/0a", 15: "o/00/0f", 16: "o/00/10", 63: "o/00/3f",
		64: "o/01/00", 65: "o/01/01", 127: "o/01/3f", 640: "o/0a/00", 1_023: "o/0f/3f", 1_024: "o/10/00",
		slotCap - 1: "o/3f/3f", slotCap: "", slotCap + 1: "", -64: "", 65_536: "",
		math.MaxInt: "", math.MinInt: "", math.MaxInt32: "", math.MinInt32: "", 1 << 32: "", -slotCap: "",
	} {
		if got := store.Path(no); got != want {
			t.Errorf("Path(%d) = %q; want %q", no, got, want)
		}
	}
}

func TestPathsOfAllNumbers(t *testing.T) {
	for no := range slotCap {
		if got, want := store.Path(no), fmt.Sprintf("o/%02x/%02x", no/64, no%64); got != want {
			t.Errorf("Path(%d) = %q; want %q", no, got, want)
		}
	}
}

// P13.2: Open

func TestOpenOfAnEmptyDisk(t *testing.T) {
	for _, slots := range []int{0, 1, 2, 64, slotCap - 1, slotCap} {
		d := plain(t)
		wantOpen(t, d, slots, 3)
		wantSeen(t, d, file("log", nil))
		wantSafe(t, d, file("log", nil))
		// It is opened again without a step.
		wantOpen(t, d, slots, 0)
	}
}

func TestOpenWithSlotsOutOfBounds(t *testing.T) {
	a := entry("a", "", "1")
	for _, slots := range []int{-1, -2, -slotCap, slotCap + 1, slotCap + 2, 2 * slotCap, 1 << 32, math.MaxInt, math.MinInt} {
		d := plain(t)
		wantNoStore(t, d, slots, api.ErrConfig, 0)
		wantSeen(t, d)
		files := []api.File{file("log", []byte("junk")), file("log.new", nil), rowOf(0, a), file("o/x", nil)}
		d = plain(t, files...)
		wantNoStore(t, d, slots, api.ErrConfig, 0)
		wantSeen(t, d, files...)
		// It comes ahead of what the disk answers.
		wantNoStore(t, made(t, files, 0, []int{1}, -1), slots, api.ErrConfig, 0)
		wantNoStore(t, made(t, files, 0, nil, 0), slots, api.ErrConfig, 0)
		if s, e := store.Open(nil, slots); s != nil || e != api.ErrConfig {
			t.Errorf("Open(nil, %d) = %v, %d", slots, s, e)
		}
	}
}

func TestOpenWithoutADisk(t *testing.T) {
	for _, slots := range []int{0, 1, slotCap} {
		if s, e := store.Open(nil, slots); s != nil || e == api.OK {
			t.Errorf("Open(nil, %d) = %v, %d", slots, s, e)
		}
	}
}

func TestOpenAnswersTheLogsError(t *testing.T) {
	wantNoStore(t, made(t, nil, 0, nil, 0), 9, api.ErrPower, 0)
	wantNoStore(t, made(t, nil, 0, []int{2}, -1), 9, api.ErrFault, 2)
	whole := []api.File{file("log", logOf()), file("log.new", nil)}
	wantNoStore(t, made(t, whole, 0, []int{1}, -1), 9, api.ErrFault, 1)
	bad := []api.File{file("log", append(logOf(added(0, "a\n")), "junk"...))}
	wantNoStore(t, made(t, bad, 0, nil, -1), 9, api.ErrFull, 3)
}

// afterRecords: Open of a disk on which the numbers 0 to 3 have files of a, b, a, b, and a log with these records.
func afterRecords(t *testing.T, records []api.Record, want ...api.Entry) {
	t.Helper()
	d := plain(t, file("log", logOf(records...)), rowOf(0, entry("a", "", "0")), rowOf(1, entry("b", "", "1")), rowOf(2, entry("a", "", "2")), rowOf(3, entry("b", "", "3")))
	// All files are there, so that no Id is taken out; those that don't count are removed.
	wantOpen(t, d, 4, 4-len(want), want...)
	files := []api.File{file("log", logOf(records...))}
	for _, e := range want {
		no, _ := strconv.Atoi(string(e.Body))
		files = append(files, rowOf(no, e))
	}
	wantSeen(t, d, files...)
}

func TestTheRecordsMakeTheTable(t *testing.T) {
	a0, b1, a2, b3 := entry("a", "", "0"), entry("b", "", "1"), entry("a", "", "2"), entry("b", "", "3")
	a, b := "a\n", "b\n"
	type list = []api.Record
	afterRecords(t, nil)
	afterRecords(t, list{added(0, a)}, a0)
	afterRecords(t, list{added(2, a)}, a2)
	afterRecords(t, list{added(0, a), added(1, b)}, a0, b1)
	afterRecords(t, list{added(3, b), added(2, a)}, a2, b3)
	afterRecords(t, list{added(0, a), added(0, a)}, a0)
	// The last one holds.
	afterRecords(t, list{added(0, a), added(2, a)}, a2)
	afterRecords(t, list{added(2, a), added(0, a)}, a0)
	afterRecords(t, list{added(0, a), added(2, a), added(0, a), added(3, b)}, a0, b3)
	// A number that isn't the file's doesn't matter, if another one follows.
	afterRecords(t, list{added(9, a), added(2, a)}, a2)
	afterRecords(t, list{added(1, a), added(0, a)}, a0)
	afterRecords(t, list{added(0, a), dropped(0, a)})
	afterRecords(t, list{added(0, a), dropped(0, a), added(0, a)}, a0)
	afterRecords(t, list{added(0, a), dropped(0, a), added(2, a)}, a2)
	afterRecords(t, list{added(0, a), added(2, a), dropped(0, a)})
	afterRecords(t, list{added(0, a), added(1, b), dropped(0, a), added(2, a), dropped(1, b)}, a2)
	// A drop is of the Id, whatever its number.
	afterRecords(t, list{added(0, a), dropped(77, a)})
	afterRecords(t, list{added(0, a), dropped(0, b)}, a0)
	afterRecords(t, list{dropped(0, a)})
	afterRecords(t, list{dropped(0, a), added(0, a)}, a0)
	afterRecords(t, list{added(0, a), dropped(0, a), dropped(0, a), added(1, b)}, b1)
	afterRecords(t, list{added(0, a), dropped(0, "a"), dropped(0, ""), dropped(0, "A\n")}, a0)
}

// Where the log has to be rewritten by its own layer.
func TestOpenOfALogThatIsCut(t *testing.T) {
	a, b := entry("a", "", "1"), entry("b", "", "2")
	whole := logOf(added(0, "a\n"), added(1, "b\n"))
	first := logOf(added(0, "a\n"))
	for n := len(first); n < len(whole); n++ {
		d := plain(t, file("log", whole[:n]), rowOf(0, a), rowOf(1, b))
		steps := 6
		if n == len(first) {
			steps = 1
		}
		wantOpen(t, d, 9, steps, a)
		wantSeen(t, d, file("log", first), rowOf(0, a))
	}
	d := plain(t, file("log", append(bytes.Clone(whole), "junk"...)), file("log.new", whole), rowOf(0, a), rowOf(1, b))
	wantOpen(t, d, 9, 6, a, b)
	wantSeen(t, d, file("log", whole), rowOf(0, a), rowOf(1, b))
}

func TestOpenOfALogWithARecordOfAnotherNumber(t *testing.T) {
	a, b := entry("a", "", "1"), entry("b", "", "2")
	first := logOf(added(0, "a\n"))
	for _, seq := range []int{0, 2, 3, 4_294_967_295} {
		other, _ := rec.Encode(api.Record{Seq: seq, Op: 1, No: 1, Id: "b\n"})
		d := plain(t, file("log", append(bytes.Clone(first), other...)), rowOf(0, a), rowOf(1, b))
		wantOpen(t, d, 9, 6, a)
		wantSeen(t, d, file("log", first), rowOf(0, a))
		other, _ = rec.Encode(api.Record{Seq: seq, Op: 2, No: 0, Id: "a\n"})
		d = plain(t, file("log", append(bytes.Clone(first), other...)), rowOf(0, a))
		wantOpen(t, d, 9, 5, a)
	}
}

func TestOpenTakesOutANumberThatIsNotBelowSlots(t *testing.T) {
	for _, c := range []struct {
		no, slots int
		stays     bool
	}{
		{0, 0, false}, {0, 1, true}, {1, 1, false}, {1, 2, true}, {2, 2, false}, {2, 1, false}, {63, 64, true}, {64, 64, false}, {64, 65, true},
		{slotCap - 1, slotCap, true}, {slotCap - 1, slotCap - 1, false}, {slotCap - 1, 0, false},
	} {
		e := entry("a", "v", "body")
		d := plain(t, file("log", logOf(added(c.no, "a\nv"))), rowOf(c.no, e))
		if c.stays {
			wantOpen(t, d, c.slots, 0, e)
			wantSeen(t, d, file("log", logOf(added(c.no, "a\nv"))), rowOf(c.no, e))
			continue
		}
		wantOpen(t, d, c.slots, 6)
		wantSeen(t, d, file("log", nil))
		wantSafe(t, d, file("log", nil), rowOf(c.no, e))
	}
	// Numbers that have no file at all.
	for _, no := range []int{slotCap, slotCap + 1, 65_536, 1 << 31, 4_294_967_295} {
		d := plain(t, file("log", logOf(added(no, "a\n"))), rowOf(0, entry("a", "", "")))
		wantOpen(t, d, slotCap, 6)
		wantSeen(t, d, file("log", nil))
	}
}

// noEntries: what the file of a's number may hold, that isn't a's entry.
func noEntries() map[string][]byte {
	a := fileOf(entry("a", "", "body"))
	spoiled := bytes.Clone(a)
	spoiled[len(a)/2] ^= 1
	return map[string][]byte{
		"empty": {}, "cut": a[:len(a)-1], "cut in its midst": a[:len(a)/2], "one byte": a[:1], "longer": append(bytes.Clone(a), 0), "twice": append(bytes.Clone(a), a...),
		"spoiled": spoiled, "text": []byte("junk"), "a log": logOf(added(0, "a\n")), "long": make([]byte, 300_000),
		"another key's": fileOf(entry("b", "", "body")), "another variant's": fileOf(entry("a", "v", "body")), "key and variant mixed": fileOf(entry("a\n", "", "body")), "longer key": fileOf(entry("aa", "", "body")),
	}
}

func TestOpenTakesOutAnIdWithoutItsEntry(t *testing.T) {
	b, c := entry("A", "", "2"), entry("c", "", "3")
	records := []api.Record{added(2, "c\n"), added(0, "a\n"), added(1, "A\n")}
	// The log is written anew by rising Ids.
	rewritten := file("log", logOf(added(1, "A\n"), added(2, "c\n")))
	d := plain(t, file("log", logOf(records...)), rowOf(1, b), rowOf(2, c))
	wantOpen(t, d, 9, 5, b, c)
	wantSeen(t, d, rewritten, rowOf(1, b), rowOf(2, c))
	wantSafe(t, d, rewritten, rowOf(1, b), rowOf(2, c))
	for what, data := range noEntries() {
		d := plain(t, file("log", logOf(records...)), file("o/00/00", data), rowOf(1, b), rowOf(2, c))
		s := opened(t, d, 9)
		wantEntries(t, s, b, c)
		wantNothing(t, s, "a\n")
		if d.Steps() != 6 {
			t.Errorf("%s: %d steps", what, d.Steps())
		}
		wantSeen(t, d, rewritten, rowOf(1, b), rowOf(2, c))
		wantOpen(t, d, 9, 0, b, c)
	}
	// None is left.
	d = plain(t, file("log", logOf(records...)))
	wantOpen(t, d, 9, 5)
	wantSeen(t, d, file("log", nil))
}

// Ids that no entry has are taken out as well.
func TestOpenTakesOutIdsThatAreNone(t *testing.T) {
	a := entry("a", "", "1")
	for _, id := range []string{"", "a", "\n", "\na", "a\n\n", strings.Repeat("k", keyCap)} {
		d := plain(t, file("log", logOf(added(0, "a\n"), added(0, id))), rowOf(0, a))
		wantOpen(t, d, 9, 5, a)
		wantSeen(t, d, file("log", logOf(added(0, "a\n"))), rowOf(0, a))
	}
}

// Of two Ids with one number only the one whose entry is there stays.
func TestOpenOfTwoIdsWithOneNumber(t *testing.T) {
	a, b := entry("a", "", "1"), entry("b", "", "2")
	for _, records := range [][]api.Record{{added(0, "a\n"), added(0, "b\n")}, {added(0, "b\n"), added(0, "a\n")}} {
		for _, e := range []api.Entry{a, b} {
			d := plain(t, file("log", logOf(records...)), rowOf(0, e))
			s := wantOpen(t, d, 2, 5, e)
			wantSeen(t, d, file("log", logOf(added(0, idOf(e)))), rowOf(0, e))
			wantPut(t, d, s, entry("c", "", "3"), api.OK, 6)
			wantPut(t, d, s, entry("d", "", "4"), api.ErrRoom, 0)
		}
	}
}

// Where no Id is taken out, the log stays as it is.
func TestOpenLeavesAWholeLog(t *testing.T) {
	a, b := entry("a", "", "1"), entry("b", "", "2")
	log := file("log", logOf(added(1, "b\n"), added(4, "a\n"), dropped(4, "a\n"), added(0, "a\n"), added(7, "c\n"), dropped(7, "c\n")))
	d := plain(t, log, rowOf(0, a), rowOf(1, b))
	wantOpen(t, d, 2, 0, a, b)
	wantSeen(t, d, log, rowOf(0, a), rowOf(1, b))
}

func TestOpenRemovesFilesThatNoRecordNames(t *testing.T) {
	a := entry("a", "", "1")
	strays := []string{"o/", "o//", "o/-", "o/0", "o/00", "o/00/", "o/00/00", "o/00/010", "o/00/02", "o/00/3f", "o/00/40", "o/01/00", "o/1", "o/3f/3f", "o/40/00", "o/log", "o/o/00/01", "o/z", "o/" + strings.Repeat("z", 62)}
	others := []string{"-", "0", "a", "log.old", "log0", "n/00/00", "o", "o-", "o.", "o.0", "o0/00", "o0", "oo/00/00", "p", "p/00/00", "x/o/00/00", "/o/00/00"}
	files := []api.File{file("log", logOf(added(1, "a\n"))), rowOf(1, a)}
	kept := slices.Clone(files)
	for _, name := range strays {
		files = append(files, file(name, []byte("stray")))
	}
	for _, name := range others {
		files = append(files, file(name, []byte("other")))
		kept = append(kept, file(name, []byte("other")))
	}
	d := plain(t, files...)
	wantOpen(t, d, 9, len(strays), a)
	wantSeen(t, d, kept...)
	wantSafe(t, d, files...)
	// They go one after the other, by rising names.
	for n := range len(strays) + 1 {
		d := made(t, sorted(files...), 1<<20, nil, n)
		if n == 0 {
			wantNoStore(t, d, 9, api.ErrPower, 0)
			continue
		}
		if s, e := store.Open(d, 9); s == nil || e != api.OK || d.Steps() != n {
			t.Fatalf("Open = %v, %d, %d steps", s, e, d.Steps())
		}
		slices.Sort(strays)
		want := slices.DeleteFunc(slices.Clone(files), func(f api.File) bool { return slices.Contains(strays[:n], f.Name) })
		if got := shown(d.Left(api.Fate{Names: 99})); got != shown(sorted(want...)) {
			t.Errorf("behind %d steps is left %.300q; want %.300q", n, got, shown(want))
		}
	}
	// A whole entry that no record names is one of them.
	d = plain(t, file("log", nil), rowOf(0, a))
	s := wantOpen(t, d, 9, 1)
	wantNothing(t, s, "a\n")
	wantSeen(t, d, file("log", nil))
	// The files of other numbers than the one that the last record names too.
	d = plain(t, file("log", logOf(added(0, "a\n"), added(1, "a\n"))), rowOf(0, a), rowOf(1, a))
	wantOpen(t, d, 9, 1, a)
	wantSeen(t, d, file("log", logOf(added(0, "a\n"), added(1, "a\n"))), rowOf(1, a))
}

// Whatever these Removes answer, Open goes on.
func TestOpenWhereAFileCannotBeRemoved(t *testing.T) {
	a := entry("a", "", "1")
	files := []api.File{file("log", logOf(added(1, "a\n"))), file("o/00/00", []byte("x")), rowOf(1, a), file("o/00/02", []byte("y")), file("o/00/03", []byte("z"))}
	for i, want := range [][]api.File{{files[1]}, {files[3]}, {files[4]}} {
		d := made(t, files, 1_000, []int{i + 1}, -1)
		s := wantOpen(t, d, 9, 3, a)
		wantSeen(t, d, append(want, files[0], files[2])...)
		// What lies where the entry comes is removed ahead of it.
		steps := 6
		if i == 0 {
			steps = 7
		}
		wantPut(t, d, s, entry("b", "", "2"), api.OK, steps)
		wantEntries(t, s, a, entry("b", "", "2"))
	}
	d := made(t, files, 1_000, []int{1, 2, 3}, -1)
	wantOpen(t, d, 9, 3, a)
	wantSeen(t, d, files...)
}

// many: so many records that come to nothing, and behind them those that add the entries 0, 1, 2 and so on.
func many(count int, entries ...api.Entry) []api.Record {
	var list []api.Record
	for i := range count - len(entries) {
		list = append(list, dropped(i, "gone\n"))
	}
	for i, e := range entries {
		list = append(list, added(i, idOf(e)))
	}
	return list
}

// some: so many entries, by rising Ids.
func some(count int) []api.Entry {
	var list []api.Entry
	for i := range count {
		list = append(list, entry(fmt.Sprintf("k%04d", i), "v", strconv.Itoa(i)))
	}
	return list
}

// filed: the log with these records, and the files of the entries 0, 1, 2 and so on.
func filed(records []api.Record, entries ...api.Entry) []api.File {
	files := []api.File{file("log", logOf(records...))}
	for i, e := range entries {
		files = append(files, rowOf(i, e))
	}
	return files
}

func TestOpenTidiesTheLog(t *testing.T) {
	for _, n := range []int{0, 1, 2, 7, 100} {
		entries := some(n)
		for _, count := range []int{n, 2 * n, 2*n + 15, 2*n + 16} {
			files := filed(many(count, entries...), entries...)
			d := plain(t, files...)
			wantOpen(t, d, 100, 0, entries...)
			wantSeen(t, d, files...)
		}
		for _, count := range []int{2*n + 17, 2*n + 18, 2*(n+16) + 1, 3*n + 300} {
			d := plain(t, filed(many(count, entries...), entries...)...)
			wantOpen(t, d, 100, 5, entries...)
			tidied := filed(many(n, entries...), entries...)
			wantSeen(t, d, tidied...)
			wantSafe(t, d, tidied...)
		}
	}
	// By rising Ids, whatever the order of the records and of the numbers.
	entries := some(3)
	records := slices.Concat(many(20), []api.Record{added(2, idOf(entries[2])), added(0, idOf(entries[0])), added(1, idOf(entries[1]))})
	d := plain(t, filed(records, entries...)...)
	wantOpen(t, d, 9, 5, entries...)
	wantSeen(t, d, filed(many(3, entries...), entries...)...)
}

// The log that was rewritten because an Id was taken out has no more records than Ids, and isn't tidied too; and what counts is the table when the strays are gone.
func TestOpenTakesOutAndTidies(t *testing.T) {
	entries := some(2)
	records := append(many(40, entries...), added(5, "lost\n"))
	d := plain(t, append(filed(records, entries...), file("o/3f/00", []byte("stray")))...)
	wantOpen(t, d, 9, 6, entries...)
	wantSeen(t, d, filed(many(2, entries...), entries...)...)
}

func TestOpenWhereTheTidyingFails(t *testing.T) {
	entries := some(2)
	files := append(filed(many(21, entries...), entries...), file("o/3f/3f", []byte("stray")))
	// Behind the Remove of the stray: Create, Append, Sync, Rename, SyncNames.
	for i, steps := range []int{2, 4, 5, 6} {
		d := made(t, files, 10_000, []int{i + 2}, -1)
		s := wantOpen(t, d, 9, steps, entries...)
		wantSeen(t, d, files[:3]...)
		// The next call that tidies does it.
		wantPut(t, d, s, entry("x", "", "1"), api.OK, 6)
		wantDrop(t, d, s, "x\n", api.OK, 8)
		wantSeen(t, d, filed(many(2, entries...), entries...)...)
	}
	d := made(t, files, 10_000, []int{6}, -1)
	wantOpen(t, d, 9, 6, entries...)
	wantSeen(t, d, filed(many(2, entries...), entries...)...)
	d = made(t, files, 0, nil, -1)
	wantOpen(t, d, 9, 4, entries...)
	wantSeen(t, d, files[:3]...)
	for power := 1; power < 6; power++ {
		d := made(t, files, 10_000, nil, power)
		if s, e := store.Open(d, 9); s == nil || e != api.OK || !d.Down() || len(s.Ids()) != 2 {
			t.Errorf("power for %d steps: Open = %v, %d", power, s, e)
		}
	}
}

// A great store: all numbers are in use.
func TestAFullStore(t *testing.T) {
	entries := some(slotCap)
	d := plain(t, filed(many(slotCap, entries...), entries...)...)
	s := wantOpen(t, d, slotCap, 0, entries...)
	wantPut(t, d, s, entry("more", "", ""), api.ErrRoom, 0)
	wantPut(t, d, s, entries[7], api.ErrRoom, 0)
	for _, no := range []int{slotCap - 1, 0, 64, 1_000} {
		wantDrop(t, d, s, idOf(entries[no]), api.OK, 3)
		wantPut(t, d, s, entry("more", strconv.Itoa(no), "x"), api.OK, 6)
		wantPut(t, d, s, entry("more", "", ""), api.ErrRoom, 0)
		if b, e := d.Read(store.Path(no)); e != api.OK || !bytes.Equal(b, fileOf(entry("more", strconv.Itoa(no), "x"))) {
			t.Errorf("the file %d is %.80q, %d", no, b, e)
		}
	}
	// With fewer slots those beyond them are taken out.
	d = plain(t, filed(many(slotCap, entries...), entries...)...)
	wantOpen(t, d, slotCap-1, 6, entries[:slotCap-1]...)
	d = plain(t, filed(many(slotCap, entries...), entries...)...)
	wantOpen(t, d, 100, 5+slotCap-100, entries[:100]...)
}

// P13.3: Put

func TestPut(t *testing.T) {
	d := plain(t)
	s := wantOpen(t, d, 9, 3)
	var entries []api.Entry
	var records []api.Record
	for i, e := range []api.Entry{
		entry("b", "", "1"), entry("a", "", "2"), entry("a", "v", "3"), entry("\x00\xff", "\n", "\x00\r\n"), entry("http://a/", "x=y", ""), entry("z", "", strings.Repeat("x", 65_536)),
		{Key: "k", Resp: api.Response{Status: 599}}, {Key: "l", Resp: api.Response{Status: 404, Minor: 1}, Asked: 253_402_300_799, Got: 253_402_300_799},
	} {
		wantPut(t, d, s, e, api.OK, 6)
		entries, records = append(entries, e), append(records, added(i, idOf(e)))
		wantEntries(t, s, entries...)
		wantSeen(t, d, filed(records, entries...)...)
		wantSafe(t, d, filed(records, entries...)...)
		wantOpen(t, d, 9, 0, entries...)
	}
}

func TestTheExamples(t *testing.T) {
	d := plain(t)
	s := wantOpen(t, d, 9, 3)
	for i := range 3 {
		wantPut(t, d, s, entry(strconv.Itoa(i), "", "x"), api.OK, 6)
	}
	wantPut(t, d, s, entry("1", "", "y"), api.OK, 7)
	wantEntries(t, s, entry("0", "", "x"), entry("1", "", "y"), entry("2", "", "x"))
	d = plain(t)
	s = wantOpen(t, d, 1, 3)
	wantPut(t, d, s, entry("a", "", "x"), api.OK, 6)
	wantPut(t, d, s, entry("b", "", "x"), api.ErrRoom, 0)
	wantEntries(t, s, entry("a", "", "x"))
}

// wrongEntries: what object.Encode refuses.
func wrongEntries() []api.Entry {
	long := strings.Repeat("k", keyCap+1)
	list := []api.Entry{{}, entry("", "", "1"), entry("", "v", "1"), entry(long, "", "1"), entry("k", long, "1"), entry("k", "", strings.Repeat("x", 65_537))}
	change := func(f func(e *api.Entry)) {
		e := entry("a", "", "1")
		f(&e)
		list = append(list, e)
	}
	change(func(e *api.Entry) { e.Asked = -1 })
	change(func(e *api.Entry) { e.Got = 253_402_300_800 })
	change(func(e *api.Entry) { e.Got = math.MinInt })
	change(func(e *api.Entry) { e.Resp.Status = 99 })
	change(func(e *api.Entry) { e.Resp.Minor = 2 })
	change(func(e *api.Entry) { e.Resp.Reason = "\n" })
	change(func(e *api.Entry) { e.Resp.Fields = []api.Field{{Name: "a b"}} })
	change(func(e *api.Entry) { e.Resp.Fields = []api.Field{{Name: "a", Value: "\r\n"}} })
	return list
}

// longIds: entries that are right but have an Id above KeyCap bytes.
func longIds() []api.Entry {
	long := strings.Repeat("k", keyCap)
	return []api.Entry{entry(long, "", "1"), entry(long, "v", "1"), entry(long[:keyCap-1], "v", "1"), entry("k", long[:keyCap-1], "1"), entry("k", long, "1"), entry(long, long, "1"), entry(long[:2_048], long[:2_048], "1")}
}

func TestPutRefuses(t *testing.T) {
	a := entry("a", "", "1")
	files := filed([]api.Record{added(0, "a\n")}, a)
	for _, slots := range []int{1, 2, slotCap} {
		d := plain(t, files...)
		s := wantOpen(t, d, slots, 0, a)
		for _, e := range wrongEntries() {
			wantPut(t, d, s, e, api.ErrObject, 0)
		}
		for _, e := range longIds() {
			wantPut(t, d, s, e, api.ErrLong, 0)
		}
		wantEntries(t, s, a)
		wantSeen(t, d, files...)
	}
	// With all numbers in use; also where the Id has one of them.
	d := plain(t, files...)
	s := wantOpen(t, d, 1, 0, a)
	wantPut(t, d, s, entry("b", "", "2"), api.ErrRoom, 0)
	wantPut(t, d, s, entry("a", "", "2"), api.ErrRoom, 0)
	wantPut(t, d, s, a, api.ErrRoom, 0)
	wantEntries(t, s, a)
	wantSeen(t, d, files...)
	d = plain(t)
	s = wantOpen(t, d, 0, 3)
	wantPut(t, d, s, a, api.ErrRoom, 0)
	wantPut(t, d, s, entry("", "", ""), api.ErrObject, 0)
	wantPut(t, d, s, longIds()[0], api.ErrLong, 0)
	wantEntries(t, s)
	// All that comes ahead of what the disk answers.
	d = made(t, nil, 0, nil, 3)
	s = opened(t, d, 0)
	wantPut(t, d, s, wrongEntries()[0], api.ErrObject, 0)
	wantPut(t, d, s, longIds()[0], api.ErrLong, 0)
	wantPut(t, d, s, a, api.ErrRoom, 0)
	d = made(t, nil, 0, nil, 3)
	s = opened(t, d, 1)
	wantPut(t, d, s, a, api.ErrPower, 0)
	// What isn't right is told, though its Id is too long as well.
	wrong := longIds()[0]
	wrong.Asked = -1
	wantPut(t, d, s, wrong, api.ErrObject, 0)
}

func TestPutOfTheLongestIds(t *testing.T) {
	long := strings.Repeat("k", keyCap)
	list := []api.Entry{entry(long[:keyCap-1], "", "1"), entry("k", long[:keyCap-2], "2"), entry(long[:2_000], long[:2_095], "3"), entry(long[:keyCap-2], "v", "4")}
	d := plain(t)
	s := wantOpen(t, d, 9, 3)
	for i, e := range list {
		if len(idOf(e)) != keyCap {
			t.Fatal(i, len(idOf(e)))
		}
		wantPut(t, d, s, e, api.OK, 6)
	}
	wantEntries(t, s, list...)
	wantOpen(t, d, 9, 0, list...)
}

func TestPutTakesTheLeastNumber(t *testing.T) {
	d := plain(t)
	s := wantOpen(t, d, 4, 3)
	holds := func(want ...string) {
		t.Helper()
		var got []string
		for _, name := range d.List() {
			if b, _ := d.Read(name); name != "log" {
				e, _ := object.Decode(b)
				got = append(got, name[5:]+e.Key+string(e.Body))
			}
		}
		if !slices.Equal(got, want) {
			t.Errorf("the files hold %q; want %q", got, want)
		}
	}
	put := func(key, body string, steps int) {
		t.Helper()
		wantPut(t, d, s, entry(key, "", body), api.OK, steps)
	}
	put("a", "1", 6)
	put("b", "2", 6)
	put("c", "3", 6)
	holds("00a1", "01b2", "02c3")
	put("b", "4", 7)
	holds("00a1", "02c3", "03b4")
	put("b", "5", 7)
	holds("00a1", "01b5", "02c3")
	put("a", "6", 7)
	holds("01b5", "02c3", "03a6")
	wantDrop(t, d, s, "c\n", api.OK, 3)
	put("d", "7", 6)
	holds("00d7", "01b5", "03a6")
	put("e", "8", 6)
	holds("00d7", "01b5", "02e8", "03a6")
	wantPut(t, d, s, entry("a", "", "9"), api.ErrRoom, 0)
	wantDrop(t, d, s, "a\n", api.OK, 3)
	wantDrop(t, d, s, "d\n", api.OK, 3)
	put("b", "0", 7)
	holds("00b0", "02e8")
	wantEntries(t, s, entry("b", "", "0"), entry("e", "", "8"))
	wantOpen(t, d, 4, 0, entry("b", "", "0"), entry("e", "", "8"))
}

// A new entry of an Id stands beside the first one until it counts; so it needs a number, and room, of its own.
func TestPutOfAnIdThatHasANumber(t *testing.T) {
	one, two := entry("a", "", "one"), entry("a", "", "two")
	d := plain(t)
	s := wantOpen(t, d, 2, 3)
	wantPut(t, d, s, one, api.OK, 6)
	wantPut(t, d, s, two, api.OK, 7)
	wantEntries(t, s, two)
	log := file("log", logOf(added(0, "a\n"), added(1, "a\n")))
	wantSeen(t, d, log, rowOf(1, two))
	// The first one's file is removed, but its name isn't yet safely gone.
	wantSafe(t, d, log, rowOf(0, one), rowOf(1, two))
	wantPut(t, d, s, one, api.OK, 7)
	wantEntries(t, s, one)
	wantPut(t, d, s, one, api.OK, 7)
	wantEntries(t, s, one)
	wantOpen(t, d, 2, 0, one)
	both := len(fileOf(one)) + len(fileOf(two)) + len(logOf(added(0, "a\n"), added(0, "a\n")))
	for _, room := range []int{both, both - 1} {
		d := made(t, nil, room, nil, -1)
		s := opened(t, d, 2)
		wantPut(t, d, s, one, api.OK, 6)
		if room == both {
			wantPut(t, d, s, two, api.OK, 7)
			wantEntries(t, s, two)
			continue
		}
		// There is room for the entry but not for its record.
		wantPut(t, d, s, two, api.ErrFull, 6)
		wantEntries(t, s, one)
		wantSeen(t, d, file("log", logOf(added(0, "a\n"))), rowOf(0, one))
	}
}

func TestPutWhereAFileLiesAlready(t *testing.T) {
	one, two, three := entry("a", "", "one"), entry("a", "", "two"), entry("b", "", "three")
	// Open 3, Put 6, Put 6 and the Remove of the first one's file, which fails.
	d := made(t, nil, 10_000, []int{16}, -1)
	s := opened(t, d, 9)
	wantPut(t, d, s, one, api.OK, 6)
	wantPut(t, d, s, two, api.OK, 7)
	wantSeen(t, d, file("log", logOf(added(0, "a\n"), added(1, "a\n"))), rowOf(0, one), rowOf(1, two))
	wantEntries(t, s, two)
	wantPut(t, d, s, three, api.OK, 7)
	wantEntries(t, s, two, three)
	now := []api.File{file("log", logOf(added(0, "a\n"), added(1, "a\n"), added(0, "b\n"))), rowOf(0, three), rowOf(1, two)}
	wantSeen(t, d, now...)
	wantSafe(t, d, now...)
	// With the new one's Remove of the other file there are eight steps.
	d = made(t, nil, 10_000, []int{16}, -1)
	s = opened(t, d, 9)
	wantPut(t, d, s, one, api.OK, 6)
	wantPut(t, d, s, two, api.OK, 7)
	wantPut(t, d, s, one, api.OK, 8)
	wantSeen(t, d, file("log", logOf(added(0, "a\n"), added(1, "a\n"), added(0, "a\n"))), rowOf(0, one))
	// Where the file of a dropped Id lies there still.
	d = made(t, nil, 10_000, []int{12}, -1)
	s = opened(t, d, 9)
	wantPut(t, d, s, one, api.OK, 6)
	wantDrop(t, d, s, "a\n", api.OK, 3)
	wantNothing(t, s, "a\n")
	wantPut(t, d, s, two, api.OK, 7)
	wantEntries(t, s, two)
	// A new Open removes it.
	d = made(t, nil, 10_000, []int{16}, -1)
	s = opened(t, d, 9)
	wantPut(t, d, s, one, api.OK, 6)
	wantPut(t, d, s, two, api.OK, 7)
	wantOpen(t, d, 9, 1, two)
}

// records: how many records the disk's log has.
func records(t *testing.T, d *disk.Disk) int {
	t.Helper()
	b, e := d.Read("log")
	if e != api.OK {
		t.Fatal(e)
	}
	count := 0
	for len(b) > 0 {
		_, n, _ := rec.Decode(b)
		if n == 0 {
			t.Fatalf("%.80q", b)
		}
		count, b = count+1, b[n:]
	}
	return count
}

func TestPutTidiesTheLog(t *testing.T) {
	for _, n := range []int{1, 2, 5} {
		entries := some(n)
		d := plain(t, filed(many(n, entries...), entries...)...)
		s := wantOpen(t, d, 9, 0, entries...)
		for count := n + 1; count <= 2*n+16; count++ {
			wantPut(t, d, s, entries[0], api.OK, 7)
			if got := records(t, d); got != count {
				t.Errorf("%d records; want %d", got, count)
			}
		}
		wantPut(t, d, s, entries[0], api.OK, 12)
		if got := records(t, d); got != n {
			t.Errorf("%d records; want %d", got, n)
		}
		wantEntries(t, s, entries...)
		wantOpen(t, d, 9, 0, entries...)
		wantPut(t, d, s, entries[0], api.OK, 7)
		wantOpen(t, d, 9, 0, entries...)
	}
	// The new Id is one of those that are held against the Count.
	entries := some(3)
	for count, steps := range map[int]int{20: 6, 21: 6, 22: 11} {
		d := plain(t, filed(many(count, entries[:2]...), entries[:2]...)...)
		if count == 20 {
			s := wantOpen(t, d, 9, 0, entries[:2]...)
			wantPut(t, d, s, entries[2], api.OK, steps)
			continue
		}
		// More records than that stand there only if the tidying failed.
		d = made(t, sorted(filed(many(count, entries[:2]...), entries[:2]...)...), 10_000, []int{1}, -1)
		s := wantOpen(t, d, 9, 1, entries[:2]...)
		wantPut(t, d, s, entries[2], api.OK, steps)
		wantEntries(t, s, entries...)
		wantOpen(t, d, 9, 0, entries...)
	}
}

// P13.4: Drop

func TestDrop(t *testing.T) {
	a, b := entry("a", "", "1"), entry("b", "v", "2")
	d := plain(t, filed([]api.Record{added(0, "a\n"), added(1, "b\nv")}, a, b)...)
	s := wantOpen(t, d, 9, 0, a, b)
	wantDrop(t, d, s, "b\nv", api.OK, 3)
	wantEntries(t, s, a)
	wantNothing(t, s, "b\nv")
	log := file("log", logOf(added(0, "a\n"), added(1, "b\nv"), dropped(1, "b\nv")))
	wantSeen(t, d, log, rowOf(0, a))
	wantSafe(t, d, log, rowOf(0, a), rowOf(1, b))
	// Twice.
	wantDrop(t, d, s, "b\nv", api.ErrNone, 0)
	wantEntries(t, s, a)
	wantSeen(t, d, log, rowOf(0, a))
	wantOpen(t, d, 9, 0, a)
	wantDrop(t, d, s, "a\n", api.OK, 3)
	wantEntries(t, s)
	wantDrop(t, d, s, "a\n", api.ErrNone, 0)
	wantSeen(t, d, file("log", logOf(added(0, "a\n"), added(1, "b\nv"), dropped(1, "b\nv"), dropped(0, "a\n"))))
	wantOpen(t, d, 9, 0)
	wantPut(t, d, s, b, api.OK, 6)
	wantEntries(t, s, b)
	wantDrop(t, d, s, "b\nv", api.OK, 3)
	wantEntries(t, s)
}

func TestDropOfWhatIsNotThere(t *testing.T) {
	a := entry("a", "", "1")
	files := filed([]api.Record{added(0, "a\n")}, a)
	d := plain(t, files...)
	s := wantOpen(t, d, 9, 0, a)
	for _, id := range []string{"", "a", "\n", "A\n", "a\n ", "b\n", "o/00/00", "log", strings.Repeat("k", keyCap), strings.Repeat("k", keyCap+1), strings.Repeat("k", 100_000)} {
		wantDrop(t, d, s, id, api.ErrNone, 0)
		wantNothing(t, s, id)
	}
	wantEntries(t, s, a)
	wantSeen(t, d, files...)
	// It comes ahead of what the disk answers.
	d = made(t, nil, 0, nil, 3)
	s = opened(t, d, 9)
	wantDrop(t, d, s, "a\n", api.ErrNone, 0)
}

func TestDropTidiesTheLog(t *testing.T) {
	for _, n := range []int{1, 2, 5} {
		entries := some(n)
		left := entries[:n-1]
		for _, c := range []struct{ count, steps int }{{2*n + 13, 3}, {2*n + 14, 8}, {2*n + 15, 8}, {2*n + 16, 8}} {
			d := plain(t, filed(many(c.count, entries...), entries...)...)
			s := wantOpen(t, d, 9, 0, entries...)
			wantDrop(t, d, s, idOf(entries[n-1]), api.OK, c.steps)
			wantEntries(t, s, left...)
			if want := c.count + 1; c.steps == 3 && records(t, d) != want {
				t.Errorf("%d records; want %d", records(t, d), want)
			}
			if c.steps == 8 {
				tidied := filed(many(n-1, left...), left...)
				wantSeen(t, d, tidied...)
				wantSafe(t, d, tidied...)
			}
			wantOpen(t, d, 9, 0, left...)
		}
	}
}

// P13.5: Get, Ids

func TestGetOfASpoiledFile(t *testing.T) {
	a, b := entry("a", "", "1"), entry("b", "", "2")
	files := filed([]api.Record{added(0, "a\n"), added(1, "b\n")}, a, b)
	d := plain(t, files...)
	s := wantOpen(t, d, 9, 0, a, b)
	steps := d.Steps()
	for range 2 {
		wantEntries(t, s, a, b)
	}
	if d.Steps() != steps {
		t.Errorf("%d steps; want %d", d.Steps(), steps)
	}
	d.Append("o/00/00", []byte("x"))
	wantNothing(t, s, "a\n")
	d.Remove("o/00/01")
	wantNothing(t, s, "b\n")
	// The table is as it was.
	if got := s.Ids(); !slices.Equal(got, []string{"a\n", "b\n"}) {
		t.Errorf("Ids() = %q", got)
	}
	d.Remove("o/00/00")
	d.Create("o/00/00")
	wantNothing(t, s, "a\n")
	d.Append("o/00/00", fileOf(a))
	if e, found := s.Get("a\n"); !found || !alike(e, a) {
		t.Errorf("Get = %v, %t", e, found)
	}
	// What is dropped is gone, though its file can't be removed for there is none.
	wantDrop(t, d, s, "b\n", api.OK, 3)
	wantEntries(t, s, a)
	wantPut(t, d, s, b, api.OK, 6)
	wantEntries(t, s, a, b)
}

func TestGetWithThePowerOff(t *testing.T) {
	a := entry("a", "", "1")
	d := made(t, nil, 10_000, nil, 9)
	s := opened(t, d, 9)
	wantPut(t, d, s, a, api.OK, 6)
	wantNothing(t, s, "a\n")
	if got := s.Ids(); !slices.Equal(got, []string{"a\n"}) {
		t.Errorf("Ids() = %q", got)
	}
}

func TestIdsRise(t *testing.T) {
	d := plain(t)
	s := wantOpen(t, d, 20, 3)
	var list []api.Entry
	for _, key := range []string{"b", "a", "a\n", "a\x00", "ab", "\xff", "\x00", "B", "http://a/", "http://a/b", "http://a.b/", "10", "9"} {
		list = append(list, entry(key, "", key), entry(key, "v", key))
		if len(list) > 18 {
			break
		}
	}
	for _, e := range list {
		wantPut(t, d, s, e, api.OK, 6)
	}
	ids := s.Ids()
	if !slices.IsSorted(ids) || len(ids) != len(list) {
		t.Errorf("%q", ids)
	}
	wantEntries(t, s, list...)
}

// Two entries may have one Id; the last one counts.
func TestEntriesWithOneId(t *testing.T) {
	one, two := entry("a\nb", "c", "1"), entry("a", "b\nc", "2")
	d := plain(t)
	s := wantOpen(t, d, 9, 3)
	wantPut(t, d, s, one, api.OK, 6)
	wantPut(t, d, s, two, api.OK, 7)
	wantEntries(t, s, two)
	wantOpen(t, d, 9, 0, two)
}

// Rule 9: two stores over two disks have nothing in common.
func TestTwoStores(t *testing.T) {
	a, b := entry("a", "", "1"), entry("b", "", "2")
	one, two := plain(t), plain(t, filed([]api.Record{added(0, "b\n")}, b)...)
	s, other := wantOpen(t, one, 1, 3), wantOpen(t, two, 2, 0, b)
	wantPut(t, one, s, a, api.OK, 6)
	wantEntries(t, other, b)
	wantPut(t, two, other, a, api.OK, 6)
	wantDrop(t, two, other, "a\n", api.OK, 3)
	wantEntries(t, s, a)
	wantEntries(t, other, b)
	wantPut(t, one, s, b, api.ErrRoom, 0)
}
