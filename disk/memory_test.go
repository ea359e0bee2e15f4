package disk_test

import (
	"bytes"
	"slices"
	"strings"
	"testing"
	"unsafe"

	"conduit/api"
	"conduit/disk"
)

// P9.5, rule 5: memory

// withRoom: the list in memory that has eight more elements behind its length, and all of that memory.
func withRoom[T any](list []T, filling T) ([]T, []T) {
	all := slices.Concat(list, slices.Repeat([]T{filling}, 8))
	return all[:len(list)], all
}

// overwrite: fills the list and its spare room.
func overwrite[T any](list []T, with T) {
	list = list[:cap(list)]
	for i := range list {
		list[i] = with
	}
}

// memoryOf: the bytes with their spare room, where they lie.
func memoryOf(b []byte) string {
	return unsafe.String(unsafe.SliceData(b), cap(b))
}

// within: does a byte of one text lie in the memory of the other?
func within(one, other string) bool {
	if one == "" || other == "" {
		return false
	}
	a, b := uintptr(unsafe.Pointer(unsafe.StringData(one))), uintptr(unsafe.Pointer(unsafe.StringData(other)))
	return a < b+uintptr(len(other)) && b < a+uintptr(len(one))
}

// apart: no two of the texts lie in the same memory.
func apart(t *testing.T, texts ...string) {
	t.Helper()
	for i, one := range texts {
		for _, other := range texts[:i] {
			if within(one, other) {
				t.Errorf("%q and %q lie in the same memory", one, other)
			}
		}
	}
}

// memoriesOf: where the names and bytes of files lie.
func memoriesOf(files []api.File) []string {
	var all []string
	for _, f := range files {
		all = append(all, f.Name, memoryOf(f.Data))
	}
	return all
}

func TestWhatIsHandedInStaysAsItWas(t *testing.T) {
	one, oneMemory := withRoom([]byte("old"), '!')
	two, twoMemory := withRoom([]byte{}, '!')
	more, moreMemory := withRoom([]byte("more"), '?')
	files, filesMemory := withRoom([]api.File{{Name: "a", Data: one}, {Name: "b", Data: two}}, api.File{Name: "zzz"})
	fails, failsMemory := withRoom([]int{9, 11, 9}, 3)
	keep, keepMemory := withRoom([]int{7, -1}, 5)
	d := madeWith(t, files, 100, fails, 12)
	for range 4 {
		good(t, d.Append("a", more), d.Append("b", more))
		d.Left(api.Fate{Names: 1, Keep: keep})
	}
	wantAnswers(t, api.ErrFault, d.Create("c"))
	good(t, d.Create("c"))
	wantAnswers(t, api.ErrFault, d.Append("c", more))
	good(t, d.Append("c", more))
	wantAnswers(t, api.ErrPower, d.Append("c", more))
	d.Left(api.Fate{Names: 1, Keep: keep})
	if string(oneMemory) != "old!!!!!!!!" || string(twoMemory) != "!!!!!!!!" || string(moreMemory) != "more????????" {
		t.Errorf("%q, %q, %q", oneMemory, twoMemory, moreMemory)
	}
	if shown(filesMemory) != "a=old b="+strings.Repeat(" zzz=", 8) || !slices.Equal(failsMemory, append([]int{9, 11, 9}, slices.Repeat([]int{3}, 8)...)) || !slices.Equal(keepMemory, append([]int{7, -1}, slices.Repeat([]int{5}, 8)...)) {
		t.Errorf("%s, %v, %v", shown(filesMemory), failsMemory, keepMemory)
	}
	// What lies behind the lengths is no part of what was handed in.
	d = madeWith(t, files, 100, fails, -1)
	good(t, d.SyncNames(), d.SyncNames(), d.SyncNames())
	wantSeen(t, d, "a", "old", "b", "")
	wantLeft(t, d, keeping(0, 9, 9), "a=old b=")
}

func TestWhatIsHandedInIsNotKept(t *testing.T) {
	data, dataMemory := withRoom([]byte("old"), '!')
	files, filesMemory := withRoom([]api.File{{Name: "a", Data: data}}, api.File{})
	fails, failsMemory := withRoom([]int{5}, 0)
	d := madeWith(t, files, 100, fails, -1)
	overwrite(dataMemory, '#')
	overwrite(filesMemory, api.File{Name: "z", Data: []byte("other")})
	overwrite(failsMemory, 1)
	wantSeen(t, d, "a", "old")
	more, moreMemory := withRoom([]byte("more"), '?')
	good(t, d.Append("a", more))
	overwrite(moreMemory, '#')
	wantSeen(t, d, "a", "oldmore")
	good(t, d.Create("b"), d.Append("b", more))
	overwrite(moreMemory, '%')
	wantSeen(t, d, "a", "oldmore", "b", "####")
	keep := []int{2, 2}
	left := d.Left(api.Fate{Names: 1, Keep: keep})
	overwrite(keep, 0)
	if shown(left) != "a=oldmo b=##" {
		t.Errorf("%s", shown(left))
	}
	good(t, d.Sync("a"))
	wantAnswers(t, api.ErrFault, d.Sync("a"))
	wantLeft(t, d, keeping(1), "a=oldmore b=")
}

// Nothing that is changed in an answer, or put behind it, is the disk's or another answer's.
func TestAnswersAreNewMemory(t *testing.T) {
	for _, text := range []string{"", "x", "some text", strings.Repeat("y", 300)} {
		d := made(t, "a", text, "b", text)
		good(t, d.Append("a", []byte("12")), d.Create("c"), d.Append("c", []byte("34")), d.Rename("b", "d"))
		fate := keeping(9, 9, 9, 9)
		want, before := d.Left(fate), all(d, 3)
		for range 3 {
			for _, name := range d.List() {
				b, _ := d.Read(name)
				overwrite(b, '#')
			}
			overwrite(d.List(), "other")
			left := d.Left(fate)
			for _, f := range left {
				overwrite(f.Data, '#')
			}
			overwrite(left, api.File{Name: "other"})
			if got := all(d, 3); got != before {
				t.Fatalf("%.300s; want %.300s", got, before)
			}
		}
		if shown(want) != "a="+text+"12 c=34 d="+text {
			t.Errorf("%.300s", shown(want))
		}
		// Nor do later calls change an answer.
		b, _ := d.Read("a")
		list := d.List()
		good(t, d.Append("a", []byte("56")), d.Remove("c"), d.Rename("a", "z"), d.SyncNames(), d.Sync("z"), d.Append("z", []byte("7")))
		if string(b) != text+"12" || !slices.Equal(list, []string{"a", "c", "d"}) || shown(want) != "a="+text+"12 c=34 d="+text {
			t.Errorf("%.100q, %q, %.300s", b, list, shown(want))
		}
	}
}

// A part of an answer can grow without the other parts or the disk noticing it.
func TestPartsOfAnAnswerAreApart(t *testing.T) {
	names := []string{"first", "second", "third"}
	d := made(t)
	for i, name := range names {
		good(t, d.Create(name), d.Append(name, bytes.Repeat([]byte{byte('0' + i)}, 5+i)), d.Sync(name))
	}
	for range 2 {
		for _, fate := range []api.Fate{keeping(9), keeping(9, 9, 9, 9), keeping(2, 1, 1)} {
			apart(t, slices.Concat(memoriesOf(d.Left(fate)), memoriesOf(d.Left(fate)), memoriesOf(readAll(d)), d.List(), d.List())...)
		}
		good(t, d.SyncNames())
	}
	left := d.Left(keeping(9))
	for i := range left {
		left[i].Data = append(left[i].Data, "!!!!!!!!!!!!!!!!"...)
	}
	if shown(left) != "first=00000!!!!!!!!!!!!!!!! second=111111!!!!!!!!!!!!!!!! third=2222222!!!!!!!!!!!!!!!!" {
		t.Errorf("%s", shown(left))
	}
	wantSeen(t, d, "first", "00000", "second", "111111", "third", "2222222")
}

func readAll(d *disk.Disk) []api.File {
	var files []api.File
	for _, name := range d.List() {
		b, _ := d.Read(name)
		files = append(files, api.File{Name: name, Data: b})
	}
	return files
}

// Names that are handed in aren't kept either, nor a longer text that one is a part of.
func TestNamesAreNotKept(t *testing.T) {
	names := strings.Clone("first second third fourth fifth")
	part := strings.Fields(names)
	old := []byte("old")
	d := madeWith(t, []api.File{{Name: part[0], Data: old}}, 1000, nil, -1)
	good(t, d.Create(part[1]), d.Create(part[2]), d.Rename(part[2], part[3]), d.Rename(part[1], part[4]), d.Create(part[1]), d.Remove(part[1]), d.Append(part[3], []byte("new")))
	for range 2 {
		for n := range 7 {
			for _, text := range memoriesOf(d.Left(keeping(n, 9, 9, 9, 9))) {
				apart(t, names, memoryOf(old), text)
			}
		}
		for _, text := range append(memoriesOf(readAll(d)), d.List()...) {
			apart(t, names, memoryOf(old), text)
		}
		good(t, d.SyncNames())
	}
	// The memory of a name may be used again.
	memory := []byte("name")
	name := unsafe.String(unsafe.SliceData(memory), len(memory))
	d = madeWith(t, []api.File{{Name: name, Data: old}}, 1000, nil, -1)
	copy(memory, "file")
	good(t, d.Create(name))
	copy(memory, "text")
	good(t, d.Create(name))
	copy(memory, "name")
	good(t, d.Rename(name, "else"))
	copy(memory, "then")
	good(t, d.Rename("file", name))
	copy(memory, "text")
	good(t, d.Remove(name))
	copy(memory, "----")
	wantSeen(t, d, "else", "old", "then", "")
	for n, want := range []string{"name=old", "file= name=old", "file= name=old text=", "else=old file= text=", "else=old text= then=", "else=old then="} {
		wantLeft(t, d, keeping(n), want)
	}
}
