package swaplog_test

import (
	"bytes"
	"encoding/binary"
	"hash/crc32"
	"math"
	"math/rand/v2"
	"slices"
	"strconv"
	"strings"
	"testing"

	"conduit/api"
	"conduit/disk"
	"conduit/swaplog"
)

// greatest: the greatest Seq and No. keyCap: the longest Id, as the document says it.
const (
	greatest = 4_294_967_295
	keyCap   = 4_096
)

// written: the bytes ahead of a check sum, and the right one behind them.
func written(ahead []byte) []byte {
	return binary.BigEndian.AppendUint32(bytes.Clone(ahead), crc32.ChecksumIEEE(ahead))
}

// recordOf: a record's bytes, with the Seq that it has.
func recordOf(r api.Record) []byte {
	b := binary.BigEndian.AppendUint16([]byte{byte(192 + r.Op)}, uint16(len(r.Id)))
	b = binary.BigEndian.AppendUint32(b, uint32(r.Seq))
	b = binary.BigEndian.AppendUint32(b, uint32(r.No))
	return written(append(b, r.Id...))
}

// bytesOf: the records behind one another, with the Seq that they have.
func bytesOf(list []api.Record) []byte {
	var all []byte
	for _, r := range list {
		all = append(all, recordOf(r)...)
	}
	return all
}

// numbered: the records with the Seq 0, 1, 2 and so on.
func numbered(list ...api.Record) []api.Record {
	list = slices.Clone(list)
	for i := range list {
		list[i].Seq = i
	}
	return list
}

func add(no int, id string) api.Record  { return api.Record{Op: 1, No: no, Id: id} }
func drop(no int, id string) api.Record { return api.Record{Op: 2, No: no, Id: id} }

// some: so many records, no two alike, with the Seq 0, 1, 2 and so on.
func some(count int) []api.Record {
	var list []api.Record
	for i := range count {
		list = append(list, api.Record{Op: 1 + i%2, No: 7 * i, Id: strings.Repeat("i", i%5) + strconv.Itoa(i)})
	}
	return numbered(list...)
}

// everyKind: records at all edges of what a record may be.
func everyKind() []api.Record {
	every := make([]byte, 256)
	for i := range every {
		every[i] = byte(i)
	}
	long := strings.Repeat("k", keyCap)
	return numbered(add(0, ""), drop(0, ""), add(greatest, "a"), drop(greatest, "a"), add(1, string(every)), drop(255, "\xc1\xc2\x00"), add(256, long), drop(65_536, long[1:]), add(3, "http://a/\n"), add(3, "http://a/\n"))
}

// asLog: the records of bytes that are a log's, and whether they are.
func asLog(b []byte) ([]api.Record, bool) {
	var list []api.Record
	for len(b) > 0 {
		if len(b) < 15 || b[0] != 193 && b[0] != 194 {
			return nil, false
		}
		size := int(binary.BigEndian.Uint16(b[1:]))
		if size > keyCap || len(b) < 15+size {
			return nil, false
		}
		r := api.Record{Op: int(b[0]) - 192, Seq: len(list), No: int(binary.BigEndian.Uint32(b[7:])), Id: string(b[11 : 11+size])}
		if !bytes.HasPrefix(b, recordOf(r)) {
			return nil, false
		}
		list, b = append(list, r), b[15+size:]
	}
	return list, true
}

// oracle: the longest beginning of b that is a log's bytes.
func oracle(b []byte) ([]api.Record, int) {
	for n := len(b); n > 0; n-- {
		if list, ok := asLog(b[:n]); ok {
			return list, n
		}
	}
	return nil, 0
}

func wantReplay(t *testing.T, b []byte, want []api.Record, length int) {
	t.Helper()
	if got, n := swaplog.Replay(b); !slices.Equal(got, want) || n != length {
		t.Errorf("Replay(%.80q of %d) = %.200v of %d, %d; want %.200v of %d, %d", b, len(b), got, len(got), n, want, len(want), length)
	}
}

// sound: just the bytes of the first records are sound.
func sound(t *testing.T, b []byte, list []api.Record) {
	t.Helper()
	wantReplay(t, b, list, len(bytesOf(list)))
}

func wantAsOracle(t *testing.T, b []byte) {
	t.Helper()
	list, n := oracle(b)
	wantReplay(t, b, list, n)
}

// P11.1: Replay

func TestReplayOfNothing(t *testing.T) {
	wantReplay(t, nil, nil, 0)
	wantReplay(t, []byte{}, nil, 0)
}

func TestReplayOfSoundBytes(t *testing.T) {
	for _, r := range everyKind() {
		one := numbered(r)
		wantReplay(t, recordOf(one[0]), one, 15+len(r.Id))
	}
	all := everyKind()
	for n := range len(all) + 1 {
		wantReplay(t, bytesOf(all[:n]), all[:n], len(bytesOf(all[:n])))
	}
	for _, n := range []int{2, 3, 10, 255, 256, 257, 1_000, 70_000} {
		list := some(n)
		wantReplay(t, bytesOf(list), list, len(bytesOf(list)))
	}
}

func TestReplayOfTheExamples(t *testing.T) {
	list := numbered(add(0, "a"), drop(0, "a"))
	b := []byte("\xc1\x00\x01\x00\x00\x00\x00\x00\x00\x00\x00a")
	b = written(b)
	if !bytes.Equal(b, recordOf(list[0])) || len(b) != 16 {
		t.Fatalf("%q", b)
	}
	b = append(b, written([]byte("\xc2\x00\x01\x00\x00\x00\x01\x00\x00\x00\x00a"))...)
	wantReplay(t, b, list, 32)
	wantReplay(t, b[:20], list[:1], 16)
}

func TestReplayOfACutRecord(t *testing.T) {
	for _, ahead := range [][]api.Record{nil, some(1), some(2), some(9)} {
		for _, id := range []string{"", "a", "some text", strings.Repeat("\xc1", 300)} {
			last := drop(4, id)
			last.Seq = len(ahead)
			whole, b := bytesOf(ahead), recordOf(last)
			for n := range b {
				sound(t, append(bytes.Clone(whole), b[:n]...), ahead)
			}
			sound(t, append(bytes.Clone(whole), b...), append(slices.Clone(ahead), last))
		}
	}
}

// withSeqs: records with these Seq.
func withSeqs(seqs ...int) []api.Record {
	var list []api.Record
	for i, seq := range seqs {
		list = append(list, api.Record{Op: 1, Seq: seq, No: i, Id: strconv.Itoa(i)})
	}
	return list
}

func TestReplayHoldsToTheSeq(t *testing.T) {
	for _, c := range []struct {
		seqs  []int
		sound int
	}{
		{[]int{1}, 0}, {[]int{2}, 0}, {[]int{255}, 0}, {[]int{256}, 0}, {[]int{1 << 24}, 0}, {[]int{greatest}, 0},
		{[]int{1, 0}, 0}, {[]int{1, 2, 3}, 0}, {[]int{1, 1}, 0}, {[]int{1, 0, 1, 2}, 0},
		{[]int{0, 2}, 1}, {[]int{0, 2, 3}, 1}, {[]int{0, 2, 1}, 1}, {[]int{0, 1, 3, 4}, 2}, {[]int{0, 1, 2, 4, 3}, 3},
		{[]int{0, 0}, 1}, {[]int{0, 0, 1}, 1}, {[]int{0, 1, 1}, 2}, {[]int{0, 1, 1, 2}, 2}, {[]int{0, 1, 2, 2, 3}, 3},
		{[]int{0, 1, 0}, 2}, {[]int{0, 1, 0, 1}, 2}, {[]int{0, 1, 2, 1}, 3}, {[]int{0, greatest}, 1}, {[]int{0, 1, greatest, 0}, 2},
		{[]int{0, 257}, 1}, {[]int{0, 1 + 1<<16}, 1}, {[]int{0, 1 + 1<<24}, 1}, {[]int{0, 1 << 31}, 1},
		{[]int{0, 1, 2, 3}, 4},
	} {
		list := withSeqs(c.seqs...)
		sound(t, bytesOf(list), list[:c.sound])
	}
	list := some(600)
	for _, at := range []int{0, 1, 2, 255, 256, 257, 511, 512, 599} {
		for _, seq := range []int{at - 1, at + 1, at + 256, at - 256, 0, greatest} {
			if seq >= 0 && seq != at {
				wrong := slices.Clone(list)
				wrong[at].Seq = seq
				sound(t, bytesOf(wrong), list[:at])
			}
		}
	}
}

func TestReplayOfAWrongRecord(t *testing.T) {
	list := numbered(add(1, "one"), drop(2, "two"), add(3, ""), add(4, "four"), drop(5, "five"))
	all := bytesOf(list)
	for i := range list {
		from, to := len(bytesOf(list[:i])), len(bytesOf(list[:i+1]))
		for at := from; at < to; at++ {
			for bit := range 8 {
				b := bytes.Clone(all)
				b[at] ^= 1 << bit
				sound(t, b, list[:i])
			}
		}
	}
}

// A record that would be right where the wrong one stands, or behind it, doesn't count.
func TestReplayStopsAtTheFirstWrongRecord(t *testing.T) {
	list := some(4)
	for i := range list {
		wrong := recordOf(list[i])
		wrong[len(wrong)-1] ^= 1
		b := slices.Concat(bytesOf(list[:i]), wrong, bytesOf(list[i:]))
		sound(t, b, list[:i])
		b = slices.Concat(bytesOf(list[:i]), wrong, bytesOf(list[i+1:]))
		sound(t, b, list[:i])
		b = slices.Concat(bytesOf(list[:i]), []byte{0}, bytesOf(list[i:]))
		sound(t, b, list[:i])
		b = slices.Concat(bytesOf(list[:i]), recordOf(list[i])[1:], bytesOf(list[i+1:]))
		sound(t, b, list[:i])
	}
	for first := range 256 {
		behind := append([]byte{byte(first)}, bytesOf(withSeqs(3))...)
		sound(t, append(bytesOf(list[:3]), behind...), list[:3])
	}
	for op := range 64 {
		last := recordOf(api.Record{Op: op, Seq: 2, Id: "x"})
		if op == 1 || op == 2 {
			continue
		}
		sound(t, append(bytesOf(list[:2]), last...), list[:2])
	}
	long := recordOf(api.Record{Op: 1, Seq: 2, Id: strings.Repeat("x", keyCap+1)})
	sound(t, slices.Concat(bytesOf(list[:2]), long, bytesOf(list[2:])), list[:2])
}

func TestReplayOfTheSoundPartIsTheSame(t *testing.T) {
	b := append(bytesOf(some(5)), recordOf(api.Record{Op: 1, Seq: 5})[:9]...)
	list, n := swaplog.Replay(b)
	wantReplay(t, b[:n], list, n)
	if list, n := swaplog.Replay(b[n:]); len(list) != 0 || n != 0 {
		t.Errorf("%v, %d", list, n)
	}
}

// spoiled: a log's bytes with some of them changed, put in or taken away.
func spoiled(r *rand.Rand) []byte {
	list := some(r.IntN(6))
	for i := range list {
		if r.IntN(12) == 0 {
			list[i].Seq = r.IntN(6)
		}
	}
	b := bytesOf(list)
	for range r.IntN(3) {
		if len(b) == 0 {
			break
		}
		switch at := r.IntN(len(b)); r.IntN(4) {
		case 0:
			b[at] = byte(r.Uint32())
		case 1:
			b = b[:at]
		case 2:
			b = slices.Insert(b, at, byte(r.Uint32()))
		case 3:
			b = slices.Delete(b, at, at+1)
		}
	}
	return b
}

func TestReplayOfAnyBytes(t *testing.T) {
	r := rand.New(rand.NewPCG(11, 1))
	for range 5_000 {
		wantAsOracle(t, spoiled(r))
	}
	for range 2_000 {
		b := make([]byte, r.IntN(60))
		for i := range b {
			b[i] = []byte{0, 0, 1, 193, 194, byte(r.Uint32())}[r.IntN(6)]
		}
		wantAsOracle(t, b)
	}
}

func FuzzReplay(f *testing.F) {
	f.Add([]byte(nil))
	f.Add(bytesOf(some(3)))
	f.Add(bytesOf(withSeqs(0, 2)))
	f.Fuzz(func(t *testing.T, b []byte) {
		if len(b) <= 2_000 {
			wantAsOracle(t, b)
		}
	})
}

// P11.2: Open

// held: a disk's files, with the log and an unfinished one, where their bytes aren't nil, among others.
func held(log, unfinished []byte) []api.File {
	files := []api.File{{Name: "lo", Data: []byte("other")}}
	if log != nil {
		files = append(files, api.File{Name: "log", Data: log})
	}
	if unfinished != nil {
		files = append(files, api.File{Name: "log.new", Data: unfinished})
	}
	return append(files, api.File{Name: "log.new1", Data: []byte("other")}, api.File{Name: "o/00/00", Data: []byte("other")})
}

// others: how many bytes the files of held have beside those of the logs.
const others = 15

func made(t *testing.T, files []api.File, room int, fails []int, power int) *disk.Disk {
	t.Helper()
	d, e := disk.New(files, room, fails, power)
	if d == nil || e != api.OK {
		t.Fatalf("New = %v, %d", d, e)
	}
	return d
}

func opened(t *testing.T, d *disk.Disk) *swaplog.Log {
	t.Helper()
	l, _, e := swaplog.Open(d)
	if l == nil || e != api.OK {
		t.Fatalf("Open = %v, %d", l, e)
	}
	return l
}

// wantOpen: Open answers these records, and makes so many steps.
func wantOpen(t *testing.T, d *disk.Disk, want []api.Record, steps int) *swaplog.Log {
	t.Helper()
	before := d.Steps()
	l, list, e := swaplog.Open(d)
	if l == nil || e != api.OK || !slices.Equal(list, want) {
		t.Fatalf("Open = %v, %.200v, %d; want %.200v", l, list, e, want)
	}
	if l.Count() != len(want) || d.Steps()-before != steps {
		t.Errorf("Count() = %d, %d steps; want %d, %d", l.Count(), d.Steps()-before, len(want), steps)
	}
	return l
}

// wantNoLog: Open answers an error and nothing else.
func wantNoLog(t *testing.T, d *disk.Disk, errno api.Errno, steps int) {
	t.Helper()
	before := d.Steps()
	if l, list, e := swaplog.Open(d); l != nil || len(list) != 0 || e != errno || d.Steps()-before != steps {
		t.Errorf("Open = %v, %.200v, %d, %d steps; want %d, %d steps", l, list, e, d.Steps()-before, errno, steps)
	}
}

func shown(files []api.File) string {
	var words []string
	for _, f := range files {
		words = append(words, f.Name+"="+string(f.Data))
	}
	return strings.Join(words, " ")
}

// seen: the disk's files while the power is on.
func seen(d *disk.Disk) []api.File {
	var files []api.File
	for _, name := range d.List() {
		b, _ := d.Read(name)
		files = append(files, api.File{Name: name, Data: b})
	}
	return files
}

// wantHeld: what the disk holds, and what of it is safe.
func wantHeld(t *testing.T, d *disk.Disk, want, safe []api.File) {
	t.Helper()
	if got := shown(seen(d)); got != shown(want) {
		t.Errorf("the disk holds %.300q; want %.300q", got, shown(want))
	}
	if got := shown(d.Left(api.Fate{})); got != shown(safe) {
		t.Errorf("safe is %.300q; want %.300q", got, shown(safe))
	}
}

// unfinishedOnes: what may stand in "log.new"; nil, if there is none.
func unfinishedOnes() [][]byte {
	return [][]byte{nil, {}, []byte("junk"), bytesOf(some(2)), bytesOf(some(7))[:33]}
}

// oneIf: 1, if there are bytes.
func oneIf(b []byte) int {
	if b == nil {
		return 0
	}
	return 1
}

func TestOpenWhereThereIsNoLog(t *testing.T) {
	wantOpen(t, made(t, nil, 0, nil, -1), nil, 3)
	for _, unfinished := range unfinishedOnes() {
		d := made(t, held(nil, unfinished), 0, nil, -1)
		wantOpen(t, d, nil, 3+oneIf(unfinished))
		now := held([]byte{}, nil)
		wantHeld(t, d, now, now)
	}
}

// soundLogs: logs without a part that isn't sound.
func soundLogs() [][]api.Record {
	return [][]api.Record{nil, some(1), some(2), some(40), everyKind()}
}

func TestOpenOfASoundLog(t *testing.T) {
	for _, list := range soundLogs() {
		b := append([]byte{}, bytesOf(list)...)
		for _, unfinished := range unfinishedOnes() {
			d := made(t, held(b, unfinished), 0, nil, -1)
			wantOpen(t, d, list, oneIf(unfinished))
			wantHeld(t, d, held(b, nil), held(b, unfinished))
		}
	}
}

// unsoundParts: what may stand behind so many records and isn't sound.
func unsoundParts(count int) [][]byte {
	next := recordOf(api.Record{Op: 1, Seq: count, No: 5, Id: "next"})
	wrong := bytes.Clone(next)
	wrong[12] ^= 1
	return [][]byte{{0}, {193}, []byte("junk"), next[:1], next[:3], next[:len(next)-1], wrong, append(wrong, next...), recordOf(api.Record{Op: 1, Seq: count + 1}), bytesOf(withSeqs(count+1, count))}
}

func TestOpenOfALogThatIsNotSound(t *testing.T) {
	for _, list := range soundLogs() {
		whole := append([]byte{}, bytesOf(list)...)
		for _, part := range unsoundParts(len(list)) {
			b := slices.Concat(whole, part)
			for _, unfinished := range unfinishedOnes() {
				d := made(t, held(b, unfinished), 100_000, nil, -1)
				wantOpen(t, d, list, 5+oneIf(unfinished))
				now := held(whole, nil)
				wantHeld(t, d, now, now)
			}
		}
	}
}

func TestTheExamples(t *testing.T) {
	d := made(t, nil, 1000, nil, -1)
	l := wantOpen(t, d, nil, 3)
	for i, errno := range []api.Errno{l.Add(1, 0, "a"), l.Add(2, 0, "a")} {
		if errno != api.OK {
			t.Errorf("the answer %d is %d", i, errno)
		}
	}
	if l.Count() != 2 || d.Steps() != 7 {
		t.Errorf("Count() = %d, Steps() = %d", l.Count(), d.Steps())
	}
	b, _ := d.Read("log")
	for n := 17; n < 32; n++ {
		wantOpen(t, made(t, []api.File{{Name: "log", Data: b[:n]}}, 1000, nil, -1), numbered(add(0, "a")), 5)
	}
}

// An opened log goes on behind the records that it has.
func TestTheLogGoesOnBehindOpen(t *testing.T) {
	for _, list := range soundLogs() {
		whole := append([]byte{}, bytesOf(list)...)
		for _, part := range append(unsoundParts(len(list)), nil) {
			d := made(t, held(slices.Concat(whole, part), nil), 100_000, nil, -1)
			l := opened(t, d)
			wantAdd(t, d, l, add(9, "more"), api.OK, 2)
			longer := append(slices.Clone(list), api.Record{Op: 1, Seq: len(list), No: 9, Id: "more"})
			now := held(bytesOf(longer), nil)
			wantHeld(t, d, now, now)
			wantOpen(t, d, longer, 0)
		}
	}
}

func TestOpenWithoutADisk(t *testing.T) {
	if l, list, e := swaplog.Open(nil); l != nil || len(list) != 0 || e == api.OK {
		t.Errorf("Open(nil) = %v, %v, %d", l, list, e)
	}
}

// P11.3: Add

// wantAdd: Add answers this error, and makes so many steps; without an error the Count is one more.
func wantAdd(t *testing.T, d *disk.Disk, l *swaplog.Log, r api.Record, errno api.Errno, steps int) {
	t.Helper()
	before, count := d.Steps(), l.Count()
	if errno == api.OK {
		count++
	}
	if e := l.Add(r.Op, r.No, r.Id); e != errno || d.Steps()-before != steps || l.Count() != count {
		t.Errorf("Add(%d, %d, %.40q) = %d, %d steps, Count() = %d; want %d, %d, %d", r.Op, r.No, r.Id, e, d.Steps()-before, l.Count(), errno, steps, count)
	}
}

func TestAdd(t *testing.T) {
	d := made(t, held(nil, nil), 100_000, nil, -1)
	l := opened(t, d)
	list := append(everyKind(), some(300)...)
	for i, r := range list {
		if l.Count() != i {
			t.Fatalf("Count() = %d; want %d", l.Count(), i)
		}
		wantAdd(t, d, l, r, api.OK, 2)
		if i < 12 {
			now := held(bytesOf(numbered(list[:i+1]...)), nil)
			wantHeld(t, d, now, now)
		}
	}
	now := held(bytesOf(numbered(list...)), nil)
	wantHeld(t, d, now, now)
	wantOpen(t, d, numbered(list...), 0)
}

// wrongRecords: what rec.Encode refuses, by its error.
func wrongRecords() map[api.Errno][]api.Record {
	long := strings.Repeat("k", keyCap+1)
	list := map[api.Errno][]api.Record{api.ErrLong: {add(0, long), drop(greatest, long), add(5, strings.Repeat("k", 70_000))}}
	for _, op := range []int{0, 3, -1, 4, 193, 257, math.MaxInt, math.MinInt} {
		list[api.ErrRecord] = append(list[api.ErrRecord], api.Record{Op: op}, api.Record{Op: op, No: 1, Id: "x"}, api.Record{Op: op, No: -1}, api.Record{Op: op, Id: long})
	}
	for _, no := range []int{-1, greatest + 1, math.MaxInt, math.MinInt} {
		list[api.ErrRecord] = append(list[api.ErrRecord], add(no, ""), drop(no, "x"), add(no, long))
	}
	return list
}

func TestAddOfAWrongRecord(t *testing.T) {
	d := made(t, held(bytesOf(some(2)), nil), 100_000, nil, -1)
	l := wantOpen(t, d, some(2), 0)
	for errno, wrong := range wrongRecords() {
		for _, r := range wrong {
			wantAdd(t, d, l, r, errno, 0)
		}
	}
	now := held(bytesOf(some(2)), nil)
	wantHeld(t, d, now, now)
	wantAdd(t, d, l, add(1, "x"), api.OK, 2)
	wantOpen(t, d, append(some(2), api.Record{Op: 1, Seq: 2, No: 1, Id: "x"}), 0)
	// A record's own error comes ahead of the disk's.
	d = made(t, held([]byte{}, nil), 0, nil, 0)
	if _, _, e := swaplog.Open(d); e != api.ErrPower {
		t.Errorf("Open = %d", e)
	}
	d = made(t, held(nil, nil), 100, nil, 3)
	l = opened(t, d)
	wantAdd(t, d, l, add(-1, ""), api.ErrRecord, 0)
	wantAdd(t, d, l, add(1, ""), api.ErrPower, 0)
}

// P11.4: Rewrite

// wantRewrite: Rewrite answers this error, and makes so many steps; then the Count is this one.
func wantRewrite(t *testing.T, d *disk.Disk, l *swaplog.Log, list []api.Record, errno api.Errno, steps, count int) {
	t.Helper()
	before := d.Steps()
	if e := l.Rewrite(list); e != errno || d.Steps()-before != steps || l.Count() != count {
		t.Errorf("Rewrite(%.100v) = %d, %d steps, Count() = %d; want %d, %d, %d", list, e, d.Steps()-before, l.Count(), errno, steps, count)
	}
}

func TestRewrite(t *testing.T) {
	for _, old := range soundLogs() {
		for _, list := range append(soundLogs(), some(3), some(41)) {
			d := made(t, held(append([]byte{}, bytesOf(old)...), nil), 200_000, nil, -1)
			l := opened(t, d)
			wantRewrite(t, d, l, list, api.OK, 5, len(list))
			now := held(append([]byte{}, bytesOf(list)...), nil)
			wantHeld(t, d, now, now)
			wantAdd(t, d, l, drop(3, "more"), api.OK, 2)
			longer := append(slices.Clone(list), api.Record{Op: 2, Seq: len(list), No: 3, Id: "more"})
			now = held(bytesOf(longer), nil)
			wantHeld(t, d, now, now)
			wantRewrite(t, d, l, longer[len(list):], api.OK, 5, 1)
			wantOpen(t, d, numbered(longer[len(list)]), 0)
		}
	}
}

// The list's own Seq don't matter, not even those that rec.Encode would refuse.
func TestRewriteGivesNewSeq(t *testing.T) {
	seqs := []int{0, 1, 9, -1, greatest, greatest + 1, math.MaxInt, math.MinInt, 0, 5}
	list := withSeqs(seqs...)
	d := made(t, held(nil, nil), 100_000, nil, -1)
	l := opened(t, d)
	for n := range len(list) + 1 {
		wantRewrite(t, d, l, list[:n], api.OK, 5, n)
		wantOpen(t, d, numbered(list[:n]...), 0)
		wantRewrite(t, d, l, list[n:], api.OK, 5, len(list)-n)
		wantOpen(t, d, numbered(list[n:]...), 0)
	}
	for i, r := range list {
		if r.Seq != seqs[i] {
			t.Errorf("the Seq %d of the list is %d", seqs[i], r.Seq)
		}
	}
}

func TestRewriteWithAWrongRecord(t *testing.T) {
	d := made(t, held(bytesOf(some(2)), nil), 100_000, nil, -1)
	l := wantOpen(t, d, some(2), 0)
	for errno, wrong := range wrongRecords() {
		for _, r := range wrong {
			for at := range 4 {
				wantRewrite(t, d, l, slices.Insert(some(3), at, r), errno, 0, 2)
			}
			wantRewrite(t, d, l, []api.Record{r}, errno, 0, 2)
		}
	}
	// Of several errors the first one is told.
	long, bad := add(1, strings.Repeat("k", keyCap+1)), add(-1, "")
	wantRewrite(t, d, l, []api.Record{add(1, ""), long, bad}, api.ErrLong, 0, 2)
	wantRewrite(t, d, l, []api.Record{add(1, ""), bad, long}, api.ErrRecord, 0, 2)
	wantRewrite(t, d, l, []api.Record{bad, add(1, ""), long}, api.ErrRecord, 0, 2)
	now := held(bytesOf(some(2)), nil)
	wantHeld(t, d, now, now)
	wantAdd(t, d, l, add(1, "x"), api.OK, 2)
	// They come ahead of the disk's.
	d = made(t, held(nil, nil), 100, nil, 3)
	l = opened(t, d)
	wantRewrite(t, d, l, []api.Record{long}, api.ErrLong, 0, 0)
	wantRewrite(t, d, l, nil, api.ErrPower, 0, 0)
}

func TestRewriteWithTheRecordsOfOpen(t *testing.T) {
	d := made(t, held(bytesOf(some(5)), nil), 1_000, nil, -1)
	l, list, _ := swaplog.Open(d)
	wantRewrite(t, d, l, list, api.OK, 5, 5)
	now := held(bytesOf(some(5)), nil)
	wantHeld(t, d, now, now)
	slices.Reverse(list)
	wantRewrite(t, d, l, list, api.OK, 5, 5)
	wantOpen(t, d, numbered(list...), 0)
}

// Rule 9: two logs over two disks have nothing in common.
func TestTwoLogs(t *testing.T) {
	one, two := made(t, held(nil, nil), 1_000, nil, -1), made(t, held(bytesOf(some(3)), nil), 1_000, nil, -1)
	l, other := wantOpen(t, one, nil, 3), wantOpen(t, two, some(3), 0)
	wantAdd(t, one, l, add(1, "x"), api.OK, 2)
	wantAdd(t, two, other, add(2, "y"), api.OK, 2)
	wantRewrite(t, one, l, some(2), api.OK, 5, 2)
	if l.Count() != 2 || other.Count() != 4 || one.Steps() != 10 || two.Steps() != 2 {
		t.Errorf("Count() = %d, %d, Steps() = %d, %d", l.Count(), other.Count(), one.Steps(), two.Steps())
	}
	wantOpen(t, one, some(2), 0)
	wantOpen(t, two, append(some(3), api.Record{Op: 1, Seq: 3, No: 2, Id: "y"}), 0)
}

// P11.5: Count changes nothing.
func TestCount(t *testing.T) {
	d := made(t, held(bytesOf(some(3)), nil), 1_000, nil, 2)
	l := opened(t, d)
	for range 3 {
		if l.Count() != 3 || d.Steps() != 0 {
			t.Errorf("Count() = %d, Steps() = %d", l.Count(), d.Steps())
		}
	}
	wantAdd(t, d, l, add(1, ""), api.OK, 2)
	// Also where the power is off.
	if l.Count() != 4 || !d.Down() {
		t.Errorf("Count() = %d", l.Count())
	}
}
