package swaplog_test

import (
	"bytes"
	"slices"
	"strings"
	"testing"
	"unsafe"

	"conduit/api"
	"conduit/swaplog"
)

// P11.6, rule 5: memory

// withRoom: the list in memory that has eight more elements behind its length, and all of that memory.
func withRoom[T any](list []T, filling T) ([]T, []T) {
	all := slices.Concat(list, slices.Repeat([]T{filling}, 8))
	return all[:len(list)], all
}

// overwrite: fills the list and its spare room.
func overwrite[T any](list []T, with T) {
	list = list[:cap(list)]
	for i := range list {
		list[i] = with
	}
}

// memoryOf: the list with its spare room, where it lies.
func memoryOf[T any](list []T) string {
	var one T
	return unsafe.String((*byte)(unsafe.Pointer(unsafe.SliceData(list))), cap(list)*int(unsafe.Sizeof(one)))
}

// memoriesOf: where the records and their Ids lie.
func memoriesOf(list []api.Record) []string {
	all := []string{memoryOf(list)}
	for _, r := range list {
		all = append(all, r.Id)
	}
	return all
}

// within: does a byte of one text lie in the memory of the other?
func within(one, other string) bool {
	if one == "" || other == "" {
		return false
	}
	a, b := uintptr(unsafe.Pointer(unsafe.StringData(one))), uintptr(unsafe.Pointer(unsafe.StringData(other)))
	return a < b+uintptr(len(other)) && b < a+uintptr(len(one))
}

// apart: no two of the texts lie in the same memory.
func apart(t *testing.T, texts ...string) {
	t.Helper()
	for i, one := range texts {
		for _, other := range texts[:i] {
			if within(one, other) {
				t.Errorf("%.40q and %.40q lie in the same memory", one, other)
			}
		}
	}
}

// strange: a record that is put where nothing of the log's may be.
func strange() api.Record {
	return api.Record{Op: 2, Seq: 77, No: 77, Id: "strange"}
}

// withIds: records with Ids of two bytes and more, some of them alike.
func withIds() []api.Record {
	return numbered(add(1, "first"), drop(1, "first"), add(2, ""), add(3, "first"), add(4, strings.Repeat("long", 500)), add(5, "last"))
}

// someLogs: sound bytes, and some that aren't, in many ways.
func someLogs() [][]byte {
	whole := bytesOf(withIds())
	logs := [][]byte{nil, {}, whole, whole[:len(whole)-1], whole[:17], append([]byte("junk"), whole...)}
	for _, part := range unsoundParts(len(withIds())) {
		logs = append(logs, slices.Concat(whole, part))
	}
	return logs
}

func TestReplayLeavesTheBytes(t *testing.T) {
	for _, log := range someLogs() {
		for _, behind := range [][]byte{bytes.Repeat([]byte{'!'}, 40), recordOf(api.Record{Op: 1, Seq: len(withIds()), Id: "behind"}), bytesOf(withIds())} {
			memory := slices.Concat(log, behind)
			was := string(memory)
			given := memory[:len(log)]
			list, n := swaplog.Replay(given)
			if string(memory) != was {
				t.Errorf("%.60q was %.60q", memory, was)
			}
			// What lies behind the length is no part of the bytes.
			want, length := oracle(log)
			if !slices.Equal(list, want) || n != length {
				t.Errorf("Replay(%.60q) = %.100v, %d; want %.100v, %d", log, list, n, want, length)
			}
			apart(t, append(memoriesOf(list), memoryOf(memory))...)
			overwrite(memory, '#')
			if !slices.Equal(list, want) {
				t.Errorf("the records of %.60q hang on its memory", log)
			}
		}
	}
}

func TestReplaysShareNothing(t *testing.T) {
	for _, log := range someLogs() {
		one, _ := swaplog.Replay(log)
		two, _ := swaplog.Replay(log)
		apart(t, slices.Concat(memoriesOf(one), memoriesOf(two))...)
		want, _ := oracle(log)
		overwrite(one, strange())
		if !slices.Equal(two, want) {
			t.Errorf("two answers for %.60q share memory", log)
		}
		wantAsOracle(t, log)
	}
}

func TestWhatOpenAnswersIsNewMemory(t *testing.T) {
	for _, log := range someLogs() {
		for _, unfinished := range [][]byte{nil, bytesOf(withIds())} {
			given := append([]byte{}, log...)
			d := made(t, held(given, unfinished), 100_000, nil, -1)
			want, _ := oracle(log)
			l, list, _ := swaplog.Open(d)
			l2, list2, _ := swaplog.Open(d)
			file, _ := d.Read("log")
			apart(t, slices.Concat(memoriesOf(list), memoriesOf(list2), []string{memoryOf(given), memoryOf(unfinished), memoryOf(file)})...)
			overwrite(given, '#')
			overwrite(file, '#')
			overwrite(list, strange())
			if !slices.Equal(list2, want) || l.Count() != len(want) || l2.Count() != len(want) {
				t.Errorf("%.100v, Count() = %d, %d; want %.100v", list2, l.Count(), l2.Count(), want)
			}
			wantAdd(t, d, l, add(1, "more"), api.OK, 2)
			wantOpen(t, d, append(want, api.Record{Op: 1, Seq: len(want), No: 1, Id: "more"}), 0)
		}
	}
}

// What happens to the log later doesn't change what Open answered.
func TestTheRecordsOfOpenStay(t *testing.T) {
	d := made(t, held(bytesOf(withIds()), nil), 100_000, nil, -1)
	l, list, _ := swaplog.Open(d)
	wantAdd(t, d, l, add(1, "more"), api.OK, 2)
	wantRewrite(t, d, l, list[2:], api.OK, 5, len(list)-2)
	wantRewrite(t, d, l, nil, api.OK, 5, 0)
	wantAdd(t, d, l, add(1, "more"), api.OK, 2)
	if !slices.Equal(list, withIds()) {
		t.Errorf("%.200v", list)
	}
}

// textOf: a text whose memory can be changed, that memory, and what lies behind it.
func textOf(s string) (string, []byte) {
	memory := append([]byte(s), "behind"...)
	return unsafe.String(unsafe.SliceData(memory), len(s)), memory
}

func TestAddKeepsNoId(t *testing.T) {
	d := made(t, held(nil, nil), 100_000, nil, -1)
	l := opened(t, d)
	list := withIds()
	for _, r := range list {
		id, memory := textOf(r.Id)
		wantAdd(t, d, l, api.Record{Op: r.Op, No: r.No, Id: id}, api.OK, 2)
		if string(memory) != r.Id+"behind" {
			t.Errorf("%.40q was %.40q", memory, r.Id)
		}
		overwrite(memory, '#')
	}
	wantOpen(t, d, list, 0)
	id, memory := textOf(strings.Repeat("k", keyCap+1))
	wantAdd(t, d, l, add(1, id), api.ErrLong, 0)
	if string(memory) != strings.Repeat("k", keyCap+1)+"behind" {
		t.Errorf("%.40q", memory)
	}
}

// lent: the records in memory of which each byte can be changed, and a call that changes it all.
func lent(list []api.Record) ([]api.Record, func() bool, func()) {
	given, all := withRoom(list, strange())
	var memories [][]byte
	for i := range given {
		id, memory := textOf(given[i].Id)
		given[i].Id = id
		memories = append(memories, memory)
	}
	was := slices.Clone(all)
	same := func() bool {
		for i, memory := range memories {
			if string(memory) != list[i].Id+"behind" {
				return false
			}
		}
		return slices.Equal(all, was)
	}
	change := func() {
		for _, memory := range memories {
			overwrite(memory, '#')
		}
		overwrite(all, strange())
	}
	return given, same, change
}

func TestRewriteLeavesAndKeepsNoList(t *testing.T) {
	list := withIds()
	for i := range list {
		list[i].Seq = 90 - i
	}
	for _, fails := range [][]int{nil, {1}, {2}, {3}, {4}, {5}, {2, 3}} {
		d := made(t, held(bytesOf(some(2)), nil), 100_000, fails, -1)
		l := opened(t, d)
		given, same, change := lent(list)
		e := l.Rewrite(given)
		if !same() || (e == api.OK) != (fails == nil) {
			t.Errorf("faults at %v: Rewrite = %d, and the list is %.200v", fails, e, given)
		}
		before, count := shown(seen(d)), l.Count()
		change()
		if shown(seen(d)) != before || l.Count() != count {
			t.Errorf("faults at %v: the log hangs on the list's memory", fails)
		}
	}
	// Nor is the list changed where a record of it is refused.
	d := made(t, held(bytesOf(some(2)), nil), 100_000, nil, -1)
	l := opened(t, d)
	given, same, change := lent(append(list, add(-1, "wrong")))
	wantRewrite(t, d, l, given, api.ErrRecord, 0, 2)
	if !same() {
		t.Errorf("%.200v", given)
	}
	change()
	wantOpen(t, d, some(2), 0)
}
