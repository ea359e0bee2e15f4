package disk_test

import (
	"bytes"
	"math"
	"math/rand/v2"
	"slices"
	"strconv"
	"strings"
	"testing"

	"conduit/api"
	"conduit/disk"
)

// The limits as the document says them.
const (
	nameCap = 64
	diskCap = 1 << 30
)

const goodBytes = "abcdefghijklmnopqrstuvwxyz0123456789.-_/"

// held: the files of names and texts by turns.
func held(texts ...string) []api.File {
	var list []api.File
	for i := 0; i < len(texts); i += 2 {
		list = append(list, api.File{Name: texts[i], Data: []byte(texts[i+1])})
	}
	return list
}

// shown: files in few words.
func shown(files []api.File) string {
	var words []string
	for _, f := range files {
		words = append(words, f.Name+"="+string(f.Data))
	}
	return strings.Join(words, " ")
}

func keeping(names int, keep ...int) api.Fate {
	return api.Fate{Names: names, Keep: keep}
}

// made: a disk with much room and without faults, whose power stays on.
func made(t *testing.T, texts ...string) *disk.Disk {
	t.Helper()
	return madeWith(t, held(texts...), 1000, nil, -1)
}

func madeWith(t *testing.T, files []api.File, room int, fails []int, power int) *disk.Disk {
	t.Helper()
	d, e := disk.New(files, room, fails, power)
	if d == nil || e != api.OK {
		t.Fatalf("New(%q, %d, %v, %d) = %v, %d", shown(files), room, fails, power, d, e)
	}
	return d
}

func wantAnswers(t *testing.T, want api.Errno, answers ...api.Errno) {
	t.Helper()
	for i, e := range answers {
		if e != want {
			t.Errorf("the answer %d is %d; want %d", i, e, want)
		}
	}
}

func good(t *testing.T, answers ...api.Errno) {
	t.Helper()
	wantAnswers(t, api.OK, answers...)
}

func wantLeft(t *testing.T, d *disk.Disk, fate api.Fate, want string) {
	t.Helper()
	if got := shown(d.Left(fate)); got != want {
		t.Errorf("Left(%v) = %q; want %q", fate, got, want)
	}
}

// wantSeen: what Read, List and Used tell while the power is on.
func wantSeen(t *testing.T, d *disk.Disk, texts ...string) {
	t.Helper()
	var names []string
	used := 0
	for i := 0; i < len(texts); i += 2 {
		names = append(names, texts[i])
		used += len(texts[i+1])
		if b, e := d.Read(texts[i]); string(b) != texts[i+1] || e != api.OK {
			t.Errorf("Read(%q) = %q, %d; want %q", texts[i], b, e, texts[i+1])
		}
	}
	if list := d.List(); !slices.Equal(list, names) {
		t.Errorf("List() = %q; want %q", list, names)
	}
	if got := d.Used(); got != used {
		t.Errorf("Used() = %d; want %d", got, used)
	}
}

func wantSteps(t *testing.T, d *disk.Disk, steps int, down bool) {
	t.Helper()
	if d.Steps() != steps || d.Down() != down {
		t.Errorf("Steps() = %d, Down() = %v; want %d, %v", d.Steps(), d.Down(), steps, down)
	}
}

func wantRead(t *testing.T, d *disk.Disk, name string, errno api.Errno) {
	t.Helper()
	if b, e := d.Read(name); len(b) != 0 || e != errno {
		t.Errorf("Read(%q) = %q, %d; want %d", name, b, e, errno)
	}
}

// all: everything that can be told of a disk, with every fate of so many files.
func all(d *disk.Disk, files int) string {
	words := []string{strconv.Itoa(d.Steps()), strconv.Itoa(d.Used()), strconv.FormatBool(d.Down()), strings.Join(d.List(), " ")}
	for _, name := range append(d.List(), "", "A", "a", "zz") {
		b, e := d.Read(name)
		words = append(words, string(b), strconv.Itoa(int(e)))
	}
	return strings.Join(words, "|") + "|" + leftovers(d, files)
}

// leftovers: what any loss of power leaves.
func leftovers(d *disk.Disk, files int) string {
	var words []string
	for names := -1; names < 9; names++ {
		for keep := -1; keep < 5; keep++ {
			words = append(words, shown(d.Left(keeping(names, slices.Repeat([]int{keep}, files)...))))
		}
		for one := range files {
			list := make([]int, one+1)
			list[one] = 2
			words = append(words, shown(d.Left(keeping(names, list...))))
		}
	}
	return strings.Join(words, "|")
}

// badNames: names that aren't good.
func badNames() []string {
	bad := []string{"", strings.Repeat("a", nameCap+1), strings.Repeat("a", 1000), "a b", "a\x00", "\x00a", "aA", "Aa", "é", "a\n", "\\", "a*"}
	for c := range 256 {
		if strings.IndexByte(goodBytes, byte(c)) < 0 {
			bad = append(bad, string([]byte{byte(c)}), string([]byte{'a', byte(c), 'b'}), strings.Repeat("a", nameCap-1)+string([]byte{byte(c)}))
		}
	}
	return bad
}

// goodNames: names of each byte that a good one may have, and of each length, rising.
func goodNames() []string {
	var list []string
	for _, c := range []byte(goodBytes) {
		list = append(list, string([]byte{c}), string([]byte{'a', c, 'b'}), strings.Repeat("z", nameCap-1)+string([]byte{c}))
	}
	for n := 1; n <= nameCap; n++ {
		list = append(list, strings.Repeat("q", n))
	}
	slices.Sort(list)
	return slices.Compact(list)
}

// The chapter's examples

func TestExamples(t *testing.T) {
	d := made(t)
	good(t, d.Create("a"), d.Append("a", []byte("xy")))
	wantLeft(t, d, keeping(0), "")
	wantLeft(t, d, keeping(1), "a=")
	wantLeft(t, d, keeping(1, 1), "a=x")
	good(t, d.Sync("a"), d.SyncNames())
	wantLeft(t, d, keeping(0), "a=xy")

	d = madeWith(t, nil, 1000, nil, 1)
	good(t, d.Create("a"))
	wantAnswers(t, api.ErrPower, d.Append("a", []byte("xy")))

	d = madeWith(t, nil, 1000, []int{2}, -1)
	good(t, d.Create("a"))
	wantAnswers(t, api.ErrFault, d.Append("a", []byte("xy")))
	wantSeen(t, d, "a", "")
}

// P9.1: New

func wantNoDisk(t *testing.T, files []api.File, room int, errno api.Errno) {
	t.Helper()
	for _, power := range []int{-1, 0, 1, math.MinInt, math.MaxInt} {
		for _, fails := range [][]int{nil, {}, {0, 1, -1}} {
			if d, e := disk.New(files, room, fails, power); d != nil || e != errno {
				t.Errorf("New(%.100q, %d) = %v, %d; want %d", shown(files), room, d, e, errno)
			}
		}
	}
}

func TestRoomsOfNew(t *testing.T) {
	for _, room := range []int{-1, -2, math.MinInt, math.MinInt32, diskCap + 1, diskCap + 2, 1 << 31, 1 << 32, 1<<32 + 1, math.MaxInt} {
		wantNoDisk(t, nil, room, api.ErrConfig)
		wantNoDisk(t, held("a", "x"), room, api.ErrConfig)
		// The room is told ahead of the names.
		wantNoDisk(t, held("A", "x"), room, api.ErrConfig)
		wantNoDisk(t, held("b", "", "a", ""), room, api.ErrConfig)
	}
	for _, room := range []int{0, 1, 2, diskCap - 1, diskCap} {
		for _, files := range [][]api.File{nil, {}, held("a", "x"), held("a", "", "b", "xyz")} {
			d := madeWith(t, files, room, nil, -1)
			if got := shown(d.Left(api.Fate{})); got != shown(files) {
				t.Errorf("room %d: %q is left of %q", room, got, shown(files))
			}
			wantSteps(t, d, 0, false)
		}
	}
}

func TestNamesOfNew(t *testing.T) {
	for _, name := range badNames() {
		wantNoDisk(t, held(name, ""), 0, api.ErrName)
		wantNoDisk(t, held(name, "", "zzz", ""), 10, api.ErrName)
		wantNoDisk(t, held("-", "", name, ""), 10, api.ErrName)
	}
	for _, name := range goodNames() {
		wantSeen(t, made(t, name, "xy"), name, "xy")
	}
	var texts []string
	for i, name := range goodNames() {
		texts = append(texts, name, strconv.Itoa(i))
	}
	wantSeen(t, made(t, texts...), texts...)
	wantLeft(t, made(t, texts...), keeping(0), shown(held(texts...)))
}

func TestOrderOfNew(t *testing.T) {
	for _, pair := range [][2]string{{"a", "b"}, {"a", "aa"}, {"a", "a-"}, {"a-", "a."}, {"a.", "a/"}, {"a/", "a0"}, {"a9", "a_"}, {"a_", "aa"}, {"a10", "a9"}, {"az", "b"}, {"9", "_"}, {"_", "a"}, {"-", "."}, {strings.Repeat("a", 63), strings.Repeat("a", 64)}} {
		low, high := pair[0], pair[1]
		wantSeen(t, made(t, low, "1", high, "2"), low, "1", high, "2")
		wantNoDisk(t, held(high, "2", low, "1"), 10, api.ErrName)
		wantNoDisk(t, held(low, "1", low, "1"), 10, api.ErrName)
		wantNoDisk(t, held(low, "1", low, "2"), 10, api.ErrName)
		wantNoDisk(t, held("--", "", low, "1", high, "2", high, "2"), 10, api.ErrName)
		wantNoDisk(t, held("--", "", high, "2", low, "1"), 10, api.ErrName)
		wantNoDisk(t, held(low, "1", high, "2", low, "1"), 10, api.ErrName)
	}
}

func TestFilesThatAreMoreThanRoom(t *testing.T) {
	for _, room := range []int{0, 1, 5, 6, 7} {
		d := madeWith(t, held("a", "abc", "b", "def"), room, nil, -1)
		wantSeen(t, d, "a", "abc", "b", "def")
		wantLeft(t, d, keeping(0), "a=abc b=def")
		good(t, d.Append("a", nil), d.Append("b", []byte{}), d.Create("c"), d.Append("c", nil), d.Rename("a", "d"))
		if room < 7 {
			wantAnswers(t, api.ErrFull, d.Append("c", []byte("x")), d.Append("d", []byte("x")))
		} else {
			good(t, d.Append("c", []byte("x")))
		}
	}
	d := madeWith(t, held("a", "abc", "b", "def"), 4, nil, -1)
	good(t, d.Remove("a"))
	wantAnswers(t, api.ErrFull, d.Append("b", []byte("xy")))
	good(t, d.Append("b", []byte("x")))
	wantAnswers(t, api.ErrFull, d.Append("b", []byte("y")))
	wantSeen(t, d, "b", "defx")
}

// P9.2: steps

// call is a step with its arguments.
type call struct {
	what string
	do   func(d *disk.Disk) api.Errno
}

func create(name string) call {
	return call{"Create " + name, func(d *disk.Disk) api.Errno { return d.Create(name) }}
}

func put(name, data string) call {
	return call{"Append " + name + " " + data, func(d *disk.Disk) api.Errno { return d.Append(name, []byte(data)) }}
}

func sync(name string) call {
	return call{"Sync " + name, func(d *disk.Disk) api.Errno { return d.Sync(name) }}
}

func syncNames() call {
	return call{"SyncNames", (*disk.Disk).SyncNames}
}

func rename(from, to string) call {
	return call{"Rename " + from + " " + to, func(d *disk.Disk) api.Errno { return d.Rename(from, to) }}
}

func remove(name string) call {
	return call{"Remove " + name, func(d *disk.Disk) api.Errno { return d.Remove(name) }}
}

// callsOn: each step with such a name.
func callsOn(name string) []call {
	return []call{create(name), put(name, ""), put(name, "xyz"), sync(name), rename(name, "a"), rename("a", name), rename(name, name), rename(name, "new"), remove(name)}
}

// longCalls: a script that has every kind of change in it, errors too.
func longCalls() []call {
	return []call{
		create("c"), put("c", "12"), put("a", "34"), sync("c"), rename("c", "b"), create("c"), put("c", "56"), remove("a"), put("gone", "x"), syncNames(), create("a"), put("b", "7"), create("a"), rename("b", "b"), put("a", "8"),
		rename("a", "c"), sync("c"), remove("b"), put("c", strings.Repeat("x", 2000)), create("Bad"), create("b"), put("b", "9"), syncNames(), put("b", "0"), put("c", "!"), remove("c"),
	}
}

func startOfLongCalls() []api.File { return held("a", "old", "b", "older") }

const filesOfLongCalls = 6

// An error changes nothing but the count.
func refused(t *testing.T, d *disk.Disk, c call, errno api.Errno) {
	t.Helper()
	steps, before := d.Steps(), allBut(d)
	if e := c.do(d); e != errno {
		t.Errorf("%q = %d; want %d", c.what, e, errno)
	}
	if d.Steps() != steps+1 {
		t.Errorf("%q: Steps() = %d behind %d", c.what, d.Steps(), steps)
	}
	if after := allBut(d); after != before {
		t.Errorf("%q has changed %q to %q", c.what, before, after)
	}
}

// allBut: everything that can be told of a disk but the count, and the number of the next file.
func allBut(d *disk.Disk) string {
	_, rest, _ := strings.Cut(all(d, 4), "|")
	return rest
}

func TestCreate(t *testing.T) {
	d := made(t, "b", "old")
	good(t, d.Create("c"), d.Create("a"), d.Create("b/c"))
	wantSeen(t, d, "a", "", "b", "old", "b/c", "", "c", "")
	wantSteps(t, d, 3, false)
	for _, name := range []string{"a", "b", "b/c", "c"} {
		refused(t, d, create(name), api.ErrExist)
	}
	for _, name := range goodNames() {
		if !slices.Contains([]string{"a", "b", "c"}, name) {
			good(t, d.Create(name))
		}
	}
}

// A name that was taken away, by Remove or by Rename, may be given anew.
func TestCreateOfARemovedName(t *testing.T) {
	d := made(t, "a", "old")
	good(t, d.Remove("a"), d.Create("a"))
	wantSeen(t, d, "a", "")
	good(t, d.Append("a", []byte("new")))
	wantLeft(t, d, keeping(0, 9, 9), "a=old")
	wantLeft(t, d, keeping(1, 9, 9), "")
	wantLeft(t, d, keeping(2), "a=")
	wantLeft(t, d, keeping(2, 9), "a=")
	wantLeft(t, d, keeping(2, 0, 2), "a=ne")
	good(t, d.Rename("a", "b"), d.Create("a"))
	wantSeen(t, d, "a", "", "b", "new")
	wantLeft(t, d, keeping(4, 9, 9, 9), "a= b=new")
	refused(t, d, create("a"), api.ErrExist)
	refused(t, d, create("b"), api.ErrExist)
}

func TestAppend(t *testing.T) {
	d := made(t, "a", "old", "b", "")
	good(t, d.Append("a", []byte("12")), d.Append("a", nil), d.Append("b", []byte("x")), d.Append("a", []byte{}), d.Append("a", []byte("3\x00\xff\n")))
	wantSeen(t, d, "a", "old123\x00\xff\n", "b", "x")
	wantSteps(t, d, 5, false)
	wantLeft(t, d, keeping(9), "a=old b=")
	wantLeft(t, d, keeping(0, 4, 1), "a=old123\x00 b=x")
	for range 100 {
		good(t, d.Append("b", []byte("y")))
	}
	wantSeen(t, d, "a", "old123\x00\xff\n", "b", "x"+strings.Repeat("y", 100))
}

func TestAppendWhereThereIsNoRoom(t *testing.T) {
	for room := range 9 {
		for have := range room + 2 {
			for more := range room + 3 {
				text := strings.Repeat("x", more)
				for _, files := range [][]api.File{held("a", strings.Repeat("y", have)), held("a", "", "b", strings.Repeat("y", have))} {
					d := madeWith(t, files, room, nil, -1)
					if more == 0 || have+more <= room {
						good(t, d.Append("a", []byte(text)))
						wantSeen(t, madeWith(t, d.Left(keeping(0, more)), room, nil, -1), append([]string{"a", string(files[0].Data) + text}, textsOf(files[1:])...)...)
					} else {
						refused(t, d, put("a", text), api.ErrFull)
					}
					if got := d.Used(); got != have+more && got != have {
						t.Errorf("Used() = %d", got)
					}
				}
			}
		}
	}
	d := madeWith(t, nil, 0, nil, -1)
	good(t, d.Create("a"), d.Append("a", nil), d.Append("a", []byte{}), d.Append("a", []byte("xyz")[:0]))
	refused(t, d, put("a", "x"), api.ErrFull)
	wantSeen(t, d, "a", "")
}

func textsOf(files []api.File) []string {
	var texts []string
	for _, f := range files {
		texts = append(texts, f.Name, string(f.Data))
	}
	return texts
}

// Room is what files that have a name now leave: one that is gone takes none, a loss of power or not.
func TestRoomThatIsGivenBack(t *testing.T) {
	d := madeWith(t, held("a", "12", "b", "345"), 6, nil, -1)
	refused(t, d, put("a", "67"), api.ErrFull)
	good(t, d.Append("a", []byte("6")))
	refused(t, d, put("b", "7"), api.ErrFull)
	good(t, d.Rename("a", "b"))
	wantSeen(t, d, "b", "126")
	refused(t, d, put("b", "3456"), api.ErrFull)
	good(t, d.Append("b", []byte("345")))
	refused(t, d, put("b", "7"), api.ErrFull)
	good(t, d.Remove("b"), d.Create("b"))
	wantSeen(t, d, "b", "")
	refused(t, d, put("b", "1234567"), api.ErrFull)
	good(t, d.Append("b", []byte("123456")), d.SyncNames())
	refused(t, d, put("b", "7"), api.ErrFull)
	good(t, d.Rename("b", "b"), d.Rename("b", "c"))
	refused(t, d, put("c", "7"), api.ErrFull)
}

func TestAGreatDisk(t *testing.T) {
	d := madeWith(t, nil, diskCap, nil, -1)
	piece := bytes.Repeat([]byte("0123456789abcdef"), 1<<16)
	good(t, d.Create("a"))
	for range 8 {
		good(t, d.Append("a", piece))
	}
	if d.Used() != 8<<20 {
		t.Errorf("Used() = %d", d.Used())
	}
	if b, e := d.Read("a"); e != api.OK || !bytes.Equal(b, bytes.Repeat(piece, 8)) {
		t.Errorf("%d bytes, %d", len(b), e)
	}
	if left := d.Left(keeping(1, 1<<22)); len(left) != 1 || !bytes.Equal(left[0].Data, bytes.Repeat(piece, 4)) {
		t.Errorf("%d files", len(left))
	}
}

func TestSync(t *testing.T) {
	d := made(t, "a", "old", "b", "")
	good(t, d.Append("a", []byte("12")), d.Append("b", []byte("34")))
	wantLeft(t, d, keeping(0), "a=old b=")
	good(t, d.Sync("a"))
	wantLeft(t, d, keeping(0), "a=old12 b=")
	good(t, d.Append("a", []byte("56")))
	wantLeft(t, d, keeping(0), "a=old12 b=")
	wantLeft(t, d, keeping(0, 1, 1), "a=old125 b=3")
	good(t, d.Sync("b"), d.Sync("b"))
	wantLeft(t, d, keeping(0), "a=old12 b=34")
	wantSeen(t, d, "a", "old1256", "b", "34")
	// The bytes are a file's, whatever its name is, and a name isn't safe by them.
	good(t, d.Create("c"), d.Append("c", []byte("78")), d.Sync("c"))
	wantLeft(t, d, keeping(0), "a=old12 b=34")
	wantLeft(t, d, keeping(1), "a=old12 b=34 c=78")
	good(t, d.Rename("a", "d"), d.Sync("d"))
	wantLeft(t, d, keeping(0), "a=old1256 b=34")
}

func TestSyncNames(t *testing.T) {
	d := made(t, "a", "old", "b", "older")
	good(t, d.SyncNames())
	wantLeft(t, d, keeping(0), "a=old b=older")
	good(t, d.Create("c"), d.Append("c", []byte("12")), d.Rename("a", "d"), d.Remove("b"))
	wantLeft(t, d, keeping(0), "a=old b=older")
	good(t, d.SyncNames())
	// Bytes aren't safe by it, and nothing is pending any more.
	for names := -1; names < 5; names++ {
		wantLeft(t, d, keeping(names), "c= d=old")
		wantLeft(t, d, keeping(names, 0, 0, 1), "c=1 d=old")
	}
	wantSeen(t, d, "c", "12", "d", "old")
	good(t, d.SyncNames(), d.Create("a"))
	wantLeft(t, d, keeping(0), "c= d=old")
	wantLeft(t, d, keeping(1), "a= c= d=old")
	wantSteps(t, d, 8, false)
}

func TestRename(t *testing.T) {
	d := made(t, "a", "1", "b", "2", "c", "3")
	good(t, d.Rename("a", "d"))
	wantSeen(t, d, "b", "2", "c", "3", "d", "1")
	refused(t, d, rename("a", "e"), api.ErrNone)
	// To a name that is there: that file is gone.
	good(t, d.Rename("b", "c"))
	wantSeen(t, d, "c", "2", "d", "1")
	// The name is another one, the file is the same.
	good(t, d.Append("c", []byte("x")), d.Sync("c"), d.Append("c", []byte("y")))
	wantSeen(t, d, "c", "2xy", "d", "1")
	wantLeft(t, d, keeping(0), "a=1 b=2x c=3")
	wantLeft(t, d, keeping(1), "b=2x c=3 d=1")
	wantLeft(t, d, keeping(2, 0, 1), "c=2xy d=1")
	good(t, d.Rename("c", "a"), d.Rename("d", "c"), d.Rename("a", "d"))
	wantSeen(t, d, "c", "1", "d", "2xy")
	for i, want := range []string{"a=1 b=2x c=3", "b=2x c=3 d=1", "c=2x d=1", "a=2x d=1", "a=2x c=1", "c=1 d=2x", "c=1 d=2x"} {
		wantLeft(t, d, keeping(i), want)
	}
}

func TestRenameToItsOwnName(t *testing.T) {
	d := made(t, "a", "old")
	good(t, d.Create("b"), d.Append("b", []byte("x")))
	before := allBut(d)
	good(t, d.Rename("a", "a"), d.Rename("b", "b"), d.Rename("a", "a"))
	wantSteps(t, d, 5, false)
	if after := allBut(d); after != before {
		t.Errorf("%s; want %s", after, before)
	}
	// It is no change of names: the one behind it is the second.
	good(t, d.Remove("a"))
	wantLeft(t, d, keeping(1), "a=old b=")
	wantLeft(t, d, keeping(2), "b=")
	refused(t, d, rename("a", "a"), api.ErrNone)
	refused(t, d, rename("A", "A"), api.ErrName)
}

func TestRemove(t *testing.T) {
	d := made(t, "a", "1", "b", "2")
	good(t, d.Append("b", []byte("x")), d.Remove("b"))
	wantSeen(t, d, "a", "1")
	for _, c := range []call{remove("b"), put("b", "x"), put("b", ""), sync("b"), rename("b", "c"), rename("b", "a"), rename("b", "b")} {
		refused(t, d, c, api.ErrNone)
	}
	wantRead(t, d, "b", api.ErrNone)
	wantLeft(t, d, keeping(0, 0, 9), "a=1 b=2x")
	wantLeft(t, d, keeping(1, 9, 9), "a=1")
	good(t, d.Remove("a"))
	wantSeen(t, d)
	wantLeft(t, d, keeping(2), "")
	good(t, d.SyncNames())
	wantLeft(t, d, keeping(0), "")
}

func TestNamesOfSteps(t *testing.T) {
	d := made(t, "a", "old", "b", "x")
	good(t, d.Create("c"), d.Append("c", []byte("y")))
	for _, name := range badNames() {
		for _, c := range callsOn(name) {
			steps := d.Steps()
			if e := c.do(d); e != api.ErrName || d.Steps() != steps+1 {
				t.Errorf("%q = %d; Steps() = %d behind %d", c.what, e, d.Steps(), steps)
			}
		}
		wantAnswers(t, api.ErrName, d.Rename(name, "none"), d.Rename("none", name))
	}
	wantSeen(t, d, "a", "old", "b", "x", "c", "y")
	wantLeft(t, d, keeping(9, 9, 9, 9), "a=old b=x c=y")
	wantLeft(t, d, keeping(0), "a=old b=x")
	for i, name := range goodNames() {
		d := made(t)
		good(t, d.Create(name), d.Append(name, []byte(strconv.Itoa(i))), d.Sync(name), d.Rename(name, name), d.Rename(name, "other"), d.Rename("other", name), d.SyncNames())
		wantSeen(t, d, name, strconv.Itoa(i))
		wantLeft(t, d, keeping(0), name+"="+strconv.Itoa(i))
		good(t, d.Remove(name))
		wantSeen(t, d)
	}
}

// Where several errors apply the order of the sentences tells which one it is.
func TestWhichErrorIsTold(t *testing.T) {
	start := func(fails []int, power int) *disk.Disk {
		return madeWith(t, held("a", "full", "b", "x"), 5, fails, power)
	}
	for _, c := range []struct {
		call
		errno api.Errno
	}{
		{create(""), api.ErrName}, {create("a"), api.ErrExist}, {create("c"), api.OK},
		{put("A", "x"), api.ErrName}, {put("c", "x"), api.ErrNone}, {put("c", ""), api.ErrNone}, {put("a", "x"), api.ErrFull}, {put("a", ""), api.OK},
		{sync("A"), api.ErrName}, {sync("c"), api.ErrNone}, {sync("a"), api.OK}, {syncNames(), api.OK},
		{rename("A", "B"), api.ErrName}, {rename("c", "B"), api.ErrName}, {rename("A", "c"), api.ErrName}, {rename("A", "a"), api.ErrName}, {rename("a", ""), api.ErrName}, {rename("", "a"), api.ErrName}, {rename("c", "c"), api.ErrNone}, {rename("c", "a"), api.ErrNone}, {rename("a", "b"), api.OK}, {rename("a", "c"), api.OK}, {rename("a", "a"), api.OK},
		{remove("A"), api.ErrName}, {remove("c"), api.ErrNone}, {remove("a"), api.OK},
	} {
		if e := c.do(start(nil, -1)); e != c.errno {
			t.Errorf("%q = %d; want %d", c.what, e, c.errno)
		}
		if c.errno != api.OK {
			refused(t, start(nil, -1), c.call, c.errno)
			refused(t, start([]int{2}, 7), c.call, c.errno)
		}
		// A fault is told ahead of them, the power ahead of that.
		refused(t, start([]int{1}, -1), c.call, api.ErrFault)
		refused(t, start([]int{1}, 2), c.call, api.ErrFault)
		for _, fails := range [][]int{nil, {1}, {0, 1}} {
			d := start(fails, 0)
			before := all(d, 3)
			if e := c.do(d); e != api.ErrPower || all(d, 3) != before {
				t.Errorf("%s = %d; want %d; %s", c.what, e, api.ErrPower, all(d, 3))
			}
		}
	}
}

// run: what the calls answer.
func run(d *disk.Disk, calls []call) []api.Errno {
	var answers []api.Errno
	for _, c := range calls {
		answers = append(answers, c.do(d))
	}
	return answers
}

// runLong: a disk on which the long script was done.
func runLong(t *testing.T, fails []int, power int, calls []call) (*disk.Disk, []api.Errno) {
	t.Helper()
	d := madeWith(t, startOfLongCalls(), 1000, fails, power)
	return d, run(d, calls)
}

// With each power the calls up to it are as ever, and those behind it do nothing.
func TestPowers(t *testing.T) {
	calls := longCalls()
	_, want := runLong(t, nil, -1, calls)
	for power := range calls {
		cut, answers := runLong(t, nil, power, calls)
		part, _ := runLong(t, nil, -1, calls[:power])
		if !slices.Equal(answers[:power], want[:power]) {
			t.Errorf("power %d: %v; want %v", power, answers[:power], want[:power])
		}
		wantAnswers(t, api.ErrPower, answers[power:]...)
		if got, whole := leftovers(cut, filesOfLongCalls), leftovers(part, filesOfLongCalls); got != whole {
			t.Errorf("power %d leaves %s; want %s", power, got, whole)
		}
		wantSteps(t, cut, power, true)
		if cut.Used() != part.Used() || len(cut.List()) != 0 {
			t.Errorf("power %d: Used() = %d, List() = %q; want %d", power, cut.Used(), cut.List(), part.Used())
		}
		for _, name := range []string{"a", "b", "c", "none", "", "A"} {
			wantRead(t, cut, name, api.ErrPower)
		}
	}
	for _, power := range []int{-1, -2, math.MinInt, math.MinInt32, len(calls) + 1, len(calls) + 2, math.MaxInt, 1 << 32} {
		d, answers := runLong(t, nil, power, calls)
		if !slices.Equal(answers, want) {
			t.Errorf("power %d: %v; want %v", power, answers, want)
		}
		wantSteps(t, d, len(calls), false)
	}
	d, answers := runLong(t, nil, len(calls), calls)
	if !slices.Equal(answers, want) {
		t.Errorf("%v; want %v", answers, want)
	}
	wantSteps(t, d, len(calls), true)
}

// Left is the same before and behind the moment at which the power went off.
func TestLeftWhenThePowerGoesOff(t *testing.T) {
	d := madeWith(t, held("a", "old"), 1000, nil, 3)
	good(t, d.Create("b"), d.Append("b", []byte("12")))
	wantSteps(t, d, 2, false)
	wantSeen(t, d, "a", "old", "b", "12")
	before := leftovers(d, 2)
	wantAnswers(t, api.ErrName, d.Create("B"))
	wantSteps(t, d, 3, true)
	for range 3 {
		if got := leftovers(d, 2); got != before {
			t.Errorf("%s; want %s", got, before)
		}
		wantAnswers(t, api.ErrPower, d.Create("c"), d.Append("b", []byte("x")), d.Append("b", nil), d.Sync("b"), d.SyncNames(), d.Rename("b", "c"), d.Rename("b", "b"), d.Remove("a"), d.Remove("none"))
		wantSteps(t, d, 3, true)
		wantRead(t, d, "a", api.ErrPower)
		wantRead(t, d, "", api.ErrPower)
		if d.Used() != 5 || len(d.List()) != 0 {
			t.Errorf("%d, %q", d.Used(), d.List())
		}
	}
	wantLeft(t, d, keeping(0), "a=old")
	wantLeft(t, d, keeping(1, 0, 1), "a=old b=1")
}

func TestPowerThatIsOffFromTheBeginning(t *testing.T) {
	d := madeWith(t, held("a", "old", "b", ""), 1000, []int{1}, 0)
	wantSteps(t, d, 0, true)
	for _, c := range slices.Concat(callsOn("a"), callsOn("none"), callsOn("Bad"), []call{syncNames()}) {
		wantAnswers(t, api.ErrPower, c.do(d))
	}
	wantSteps(t, d, 0, true)
	wantRead(t, d, "a", api.ErrPower)
	wantLeft(t, d, keeping(9, 9, 9), "a=old b=")
	if d.Used() != 3 || len(d.List()) != 0 {
		t.Errorf("%d, %q", d.Used(), d.List())
	}
}

// A call that fails is counted, and else as if it hadn't been made.
func TestFails(t *testing.T) {
	calls := longCalls()
	for i := range calls {
		without := slices.Concat(calls[:i], calls[i+1:])
		for _, fails := range [][]int{{i + 1}, {i + 1, i + 1}, {-1, 0, i + 1, 1000, math.MinInt, math.MaxInt}, {1000, i + 1, i + 1, 0}} {
			d, answers := runLong(t, fails, -1, calls)
			other, want := runLong(t, nil, -1, without)
			if want = slices.Insert(want, i, api.ErrFault); !slices.Equal(answers, want) {
				t.Errorf("fails %v: %v; want %v", fails, answers, want)
			}
			wantSteps(t, d, len(calls), false)
			wantSteps(t, other, len(calls)-1, false)
			good(t, other.SyncNames(), d.SyncNames())
			_, got, _ := strings.Cut(all(d, filesOfLongCalls), "|")
			if _, whole, _ := strings.Cut(all(other, filesOfLongCalls), "|"); got != whole {
				t.Errorf("fails %v: %s; want %s", fails, got, whole)
			}
		}
	}
	_, want := runLong(t, nil, -1, calls)
	for _, fails := range [][]int{nil, {}, {0}, {-1}, {len(calls) + 1}, {math.MaxInt, math.MinInt, 1 << 32, 1<<32 + 1, -1 << 32}} {
		if _, answers := runLong(t, fails, -1, calls); !slices.Equal(answers, want) {
			t.Errorf("fails %v: %v; want %v", fails, answers, want)
		}
	}
}

func TestEveryCallFails(t *testing.T) {
	calls := longCalls()
	var fails []int
	for i := range calls {
		fails = append(fails, len(calls)-i)
	}
	d, answers := runLong(t, fails, -1, calls)
	wantAnswers(t, api.ErrFault, answers...)
	wantSteps(t, d, len(calls), false)
	wantSeen(t, d, "a", "old", "b", "older")
	good(t, d.Create("c"))
	d, answers = runLong(t, fails, 5, calls)
	wantAnswers(t, api.ErrFault, answers[:5]...)
	wantAnswers(t, api.ErrPower, answers[5:]...)
	wantSteps(t, d, 5, true)
}

// Each of the steps may fail, and nothing else has happened then.
func TestFaultsOfEachStep(t *testing.T) {
	for _, c := range slices.Concat(callsOn("a"), callsOn("b"), callsOn("none"), callsOn("Bad"), callsOn(""), []call{syncNames()}) {
		d := madeWith(t, held("a", "old"), 9, []int{4, 7}, -1)
		good(t, d.Create("b"), d.Append("b", []byte("12")), d.Append("a", []byte("3")))
		refused(t, d, c, api.ErrFault)
		good(t, d.Sync("a"), d.SyncNames())
		refused(t, d, c, api.ErrFault)
		wantLeft(t, d, keeping(0), "a=old3 b=")
	}
}

// A call that only asks isn't counted, and so neither fails nor takes power.
func TestQuestionsAreNoSteps(t *testing.T) {
	d := madeWith(t, held("a", "old"), 1000, []int{1}, 2)
	for range 5 {
		wantSeen(t, d, "a", "old")
		wantRead(t, d, "b", api.ErrNone)
		wantRead(t, d, "B", api.ErrName)
		wantLeft(t, d, keeping(0), "a=old")
		wantSteps(t, d, 0, false)
	}
	wantAnswers(t, api.ErrFault, d.Create("b"))
	good(t, d.Create("b"))
	wantAnswers(t, api.ErrPower, d.Create("b"))
}

// P9.3: questions

func TestRead(t *testing.T) {
	d := made(t, "a", "old", "b", "")
	for _, name := range badNames() {
		wantRead(t, d, name, api.ErrName)
	}
	for _, name := range goodNames() {
		if name != "a" && name != "b" {
			wantRead(t, d, name, api.ErrNone)
		}
	}
	wantSeen(t, d, "a", "old", "b", "")
	good(t, d.Append("a", []byte("er")))
	wantSeen(t, d, "a", "older", "b", "")
	for _, name := range []string{"a", "b", "none", "", "A"} {
		wantRead(t, madeWith(t, held("a", "old"), 0, nil, 0), name, api.ErrPower)
	}
}

func TestListRises(t *testing.T) {
	names := goodNames()
	for seed := range uint64(4) {
		d := made(t)
		for _, i := range rand.New(rand.NewPCG(seed, 9)).Perm(len(names)) {
			good(t, d.Create(names[i]))
		}
		if list := d.List(); !slices.Equal(list, names) {
			t.Errorf("%q; want %q", list, names)
		}
		left := d.Left(keeping(len(names)))
		if !slices.IsSortedFunc(left, func(a, b api.File) int { return strings.Compare(a.Name, b.Name) }) || len(left) != len(names) {
			t.Errorf("%s", shown(left))
		}
	}
	d := made(t)
	for _, name := range []string{"b", "a/b", "a", "a0", "a-b", "_", "a.b", "-", "aa"} {
		good(t, d.Create(name))
	}
	wantSeen(t, d, "-", "", "_", "", "a", "", "a-b", "", "a.b", "", "a/b", "", "a0", "", "aa", "", "b", "")
	if list := made(t).List(); len(list) != 0 {
		t.Errorf("%q", list)
	}
}

// Used tells of the files that have a name now, seen, whether safe or not.
func TestUsed(t *testing.T) {
	d := made(t, "a", "123", "b", "45")
	for _, c := range []struct {
		call
		used int
	}{{create("c"), 5}, {put("c", "6"), 6}, {put("c", ""), 6}, {sync("c"), 6}, {remove("a"), 3}, {syncNames(), 3}, {rename("c", "b"), 1}, {create("a"), 1}, {rename("a", "b"), 0}, {put("b", "1234"), 4}, {put("none", "12"), 4}, {remove("b"), 0}} {
		c.do(d)
		if got := d.Used(); got != c.used {
			t.Errorf("%s: Used() = %d; want %d", c.what, got, c.used)
		}
	}
}

func TestQuestionsChangeNothing(t *testing.T) {
	calls := longCalls()
	for power := -1; power <= len(calls); power++ {
		quiet := madeWith(t, startOfLongCalls(), 1000, []int{9}, power)
		asked := madeWith(t, startOfLongCalls(), 1000, []int{9}, power)
		for i, c := range calls {
			one := all(asked, filesOfLongCalls)
			if two := all(asked, filesOfLongCalls); one != two {
				t.Fatalf("power %d, ahead of %d: %s, then %s", power, i, one, two)
			}
			if e, want := c.do(asked), c.do(quiet); e != want {
				t.Errorf("power %d, %s = %d; want %d", power, c.what, e, want)
			}
		}
		if got, want := all(asked, filesOfLongCalls), all(quiet, filesOfLongCalls); got != want {
			t.Errorf("power %d: %s; want %s", power, got, want)
		}
	}
}

// P9.4: Left

func TestNamesThatAreLeft(t *testing.T) {
	d := made(t, "a", "1", "b", "2")
	good(t, d.Create("c"), d.Remove("a"), d.Rename("b", "a"), d.Rename("c", "a"), d.Create("b"))
	states := []string{"a=1 b=2", "a=1 b=2 c=", "b=2 c=", "a=2 c=", "a=", "a= b="}
	for i, want := range states {
		wantLeft(t, d, keeping(i), want)
	}
	for _, n := range []int{-1, -2, math.MinInt, math.MinInt32, -1 << 32} {
		wantLeft(t, d, keeping(n), states[0])
	}
	for _, n := range []int{6, 7, math.MaxInt, math.MaxInt32, 1 << 32, 1<<32 + 1} {
		wantLeft(t, d, keeping(n), states[5])
	}
	good(t, d.SyncNames())
	for _, n := range []int{-1, 0, 1, 5, math.MaxInt} {
		wantLeft(t, d, keeping(n), states[5])
	}
}

// A call that answered an error is no change of names.
func TestRefusedChangesAreNotPending(t *testing.T) {
	d := madeWith(t, held("a", "1"), 1000, []int{6, 7, 8}, -1)
	wantAnswers(t, api.ErrExist, d.Create("a"))
	wantAnswers(t, api.ErrName, d.Create("A"), d.Rename("a", "A"))
	wantAnswers(t, api.ErrNone, d.Remove("b"), d.Rename("b", "a"))
	wantAnswers(t, api.ErrFault, d.Create("b"), d.Remove("a"), d.Rename("a", "b"))
	wantLeft(t, d, keeping(9), "a=1")
	good(t, d.Create("z"), d.Append("z", []byte("x")))
	wantLeft(t, d, keeping(0, 9, 9), "a=1")
	wantLeft(t, d, keeping(1), "a=1 z=")
	// Nor has it made a file: the one behind it has the next number.
	wantLeft(t, d, keeping(1, 0, 9), "a=1 z=x")
	wantLeft(t, d, keeping(1, 9, 0, 9, 9), "a=1 z=")
}

func TestBytesThatAreLeft(t *testing.T) {
	d := made(t, "a", "1", "b", "2")
	good(t, d.Append("b", []byte("34")), d.Sync("b"), d.Append("b", []byte("567")), d.Append("a", []byte("8")), d.Create("0"), d.Append("0", []byte("9")))
	for _, c := range []struct {
		keep []int
		want string
	}{
		{nil, "0= a=1 b=234"}, {[]int{}, "0= a=1 b=234"}, {[]int{1}, "0= a=18 b=234"}, {[]int{0, 1}, "0= a=1 b=2345"}, {[]int{0, 2}, "0= a=1 b=23456"}, {[]int{0, 3}, "0= a=1 b=234567"}, {[]int{0, 4}, "0= a=1 b=234567"}, {[]int{0, -1}, "0= a=1 b=234"},
		{[]int{0, 0, 1}, "0=9 a=1 b=234"}, {[]int{0, 0, 0, 1}, "0= a=1 b=234"}, {[]int{-1, -2, -3}, "0= a=1 b=234"}, {[]int{math.MinInt, math.MinInt, math.MinInt}, "0= a=1 b=234"}, {[]int{math.MaxInt, math.MaxInt, math.MaxInt}, "0=9 a=18 b=234567"}, {[]int{1 << 32, 1<<32 + 1, -1 << 32, 7, 7}, "0= a=18 b=234567"},
	} {
		wantLeft(t, d, keeping(1, c.keep...), c.want)
		wantLeft(t, d, keeping(0, c.keep...), strings.TrimLeft(c.want[2:], "9 "))
	}
}

// A file has its number for ever, under any name; one that is gone leaves its number to nobody.
func TestNumbersOfFiles(t *testing.T) {
	d := made(t, "m", "1", "n", "2")
	good(t, d.Create("a"), d.Remove("a"), d.Create("a"), d.Rename("m", "z"), d.Rename("a", "m"), d.Create("b"))
	good(t, d.Append("z", []byte("zz")), d.Append("n", []byte("nn")), d.Append("m", []byte("mm")), d.Append("b", []byte("bb")))
	wantLeft(t, d, keeping(9, 1), "b= m= n=2 z=1z")
	wantLeft(t, d, keeping(9, 0, 1), "b= m= n=2n z=1")
	wantLeft(t, d, keeping(9, 0, 0, 1), "b= m= n=2 z=1")
	wantLeft(t, d, keeping(9, 0, 0, 0, 1), "b= m=m n=2 z=1")
	wantLeft(t, d, keeping(9, 0, 0, 0, 0, 1), "b=b m= n=2 z=1")
	wantLeft(t, d, keeping(9, 0, 0, 0, 0, 0, 1), "b= m= n=2 z=1")
	good(t, d.SyncNames(), d.Remove("b"), d.SyncNames(), d.Create("b"), d.Append("b", []byte("BB")))
	wantLeft(t, d, keeping(9, 1, 1, 1, 1, 2, 1), "b=B m=m n=2n z=1z")
}

// A file whose name was safe is left with its bytes, though it was removed, renamed away or made anew since.
func TestSafeNamesThatWereTakenAway(t *testing.T) {
	d := made(t, "a", "1", "b", "2", "c", "3")
	good(t, d.Append("a", []byte("x")), d.Sync("a"), d.Append("a", []byte("y")), d.Remove("a"))
	good(t, d.Append("b", []byte("x")), d.Rename("b", "d"), d.Append("d", []byte("y")), d.Sync("d"), d.Append("d", []byte("z")))
	good(t, d.Remove("c"), d.Create("c"), d.Append("c", []byte("new")), d.Sync("c"))
	wantLeft(t, d, keeping(0), "a=1x b=2xy c=3")
	wantLeft(t, d, keeping(0, 1, 1, 1, 1), "a=1xy b=2xyz c=3")
	wantLeft(t, d, keeping(1), "b=2xy c=3")
	wantLeft(t, d, keeping(2), "c=3 d=2xy")
	wantLeft(t, d, keeping(3, 9, 9, 9, 9), "d=2xyz")
	wantLeft(t, d, keeping(4), "c=new d=2xy")
	good(t, d.Rename("d", "c"))
	wantLeft(t, d, keeping(0), "a=1x b=2xy c=3")
	wantLeft(t, d, keeping(5), "c=2xy")
	good(t, d.SyncNames())
	wantLeft(t, d, keeping(0), "c=2xy")
}

// A disk made of what is left holds just these files, all safe.
func TestDisksOfWhatIsLeft(t *testing.T) {
	calls := longCalls()
	for power := range len(calls) + 1 {
		for names := range 7 {
			for keep := range 4 {
				d, _ := runLong(t, nil, power, calls)
				left := d.Left(keeping(names, slices.Repeat([]int{keep}, filesOfLongCalls)...))
				again := madeWith(t, left, 1000, nil, -1)
				wantSeen(t, again, textsOf(left)...)
				wantSteps(t, again, 0, false)
				for _, fate := range []api.Fate{{}, keeping(9, 9, 9, 9, 9, 9, 9), keeping(-1, -1)} {
					wantLeft(t, again, fate, shown(left))
				}
			}
		}
	}
}

// Rule 9, P2

func TestTwoDisks(t *testing.T) {
	files := held("a", "old")
	one, two := madeWith(t, files, 9, []int{5}, -1), madeWith(t, files, 9, nil, 5)
	good(t, one.Create("b"), one.Append("b", []byte("12")), one.Append("a", []byte("3")))
	wantSeen(t, two, "a", "old")
	wantSteps(t, two, 0, false)
	good(t, two.Remove("a"), two.Create("b"), two.Append("b", []byte("9")))
	wantSeen(t, one, "a", "old3", "b", "12")
	wantSeen(t, two, "b", "9")
	good(t, one.SyncNames())
	wantLeft(t, two, keeping(0), "a=old")
	// A disk of what another one leaves is its own.
	three := madeWith(t, one.Left(keeping(0, 9, 9)), 9, nil, -1)
	good(t, three.Append("a", []byte("x")), three.Remove("b"), three.SyncNames())
	wantSeen(t, one, "a", "old3", "b", "12")
	wantSeen(t, three, "a", "old3x")
}

func TestDisksAnswerTheSameTwice(t *testing.T) {
	for power := -1; power < 20; power++ {
		one, answers := runLong(t, []int{3, 11}, power, longCalls())
		two, answersToo := runLong(t, []int{11, 3, 3}, power, longCalls())
		if got, want := all(one, filesOfLongCalls), all(two, filesOfLongCalls); got != want || !slices.Equal(answers, answersToo) {
			t.Errorf("power %d: %s and %s, %v and %v", power, got, want, answers, answersToo)
		}
	}
}
