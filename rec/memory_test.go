package rec_test

import (
	"bytes"
	"strings"
	"testing"
	"unsafe"

	"conduit/api"
	"conduit/rec"
)

// P10.4, rule 5: memory

// memoryOf: the bytes with their spare room, where they lie.
func memoryOf(b []byte) string {
	return unsafe.String(unsafe.SliceData(b), cap(b))
}

// within: does a byte of one text lie in the memory of the other?
func within(one, other string) bool {
	if one == "" || other == "" {
		return false
	}
	a, b := uintptr(unsafe.Pointer(unsafe.StringData(one))), uintptr(unsafe.Pointer(unsafe.StringData(other)))
	return a < b+uintptr(len(other)) && b < a+uintptr(len(one))
}

// overwrite: fills the bytes and their spare room.
func overwrite(b []byte, with byte) {
	b = b[:cap(b)]
	for i := range b {
		b[i] = with
	}
}

// manyBytes: records, and what isn't one for each reason.
func manyBytes() [][]byte {
	list := [][]byte{nil, {}, {0}, {193}, {193, 0}, {194, 0x10, 0x01}, {193, 0x10, 0x00}}
	for _, id := range someIds() {
		b := recordOf(api.Record{Op: 2, Seq: 3, No: 4, Id: id})
		spoiled := bytes.Clone(b)
		spoiled[len(b)-1] ^= 1
		list = append(list, b, b[:len(b)-1], spoiled, append(bytes.Clone(b), "more"...))
	}
	return list
}

func TestTheBytesStayAsTheyWere(t *testing.T) {
	for _, b := range manyBytes() {
		all := append(bytes.Clone(b), "behind the length"...)
		was := string(all)
		given := all[:len(b)]
		first := rec.Sum(given)
		rec.Decode(given)
		if string(all) != was {
			t.Errorf("%.40q was %.40q", all, was)
		}
		overwrite(all[len(b):], '#')
		if rec.Sum(given) != first {
			t.Errorf("Sum(%.40q) hangs on what lies behind its length", given)
		}
		wantAsOracle(t, given)
	}
}

func TestTheIdStaysAsItWas(t *testing.T) {
	for _, id := range append(someIds(), strings.Repeat("i", 4_097)) {
		memory := append([]byte(id), "behind the length"...)
		given := unsafe.String(unsafe.SliceData(memory), len(id))
		b, _ := rec.Encode(api.Record{Op: 1, Id: given})
		overwrite(b, '#')
		if string(memory) != id+"behind the length" {
			t.Errorf("%.40q was %.40q", memory, id)
		}
	}
}

func TestEncodedSharesNothingWithTheId(t *testing.T) {
	for _, id := range someIds() {
		memory := append([]byte(id), "behind the length"...)
		given := unsafe.String(unsafe.SliceData(memory), len(id))
		b, e := rec.Encode(api.Record{Op: 1, Id: given})
		if within(memoryOf(b), memoryOf(memory)) {
			t.Errorf("Encode with the Id %.40q answers its memory", id)
		}
		overwrite(memory, '#')
		if want := recordOf(api.Record{Op: 1, Id: id}); !bytes.Equal(b, want) || e != api.OK {
			t.Errorf("%.40q, not %.40q", b, want)
		}
	}
}

func TestDecodedSharesNothingWithTheBytes(t *testing.T) {
	for _, id := range someIds() {
		given := append(recordOf(api.Record{Op: 1, Id: id}), "behind"...)
		r, _, e := rec.Decode(given)
		if within(r.Id, memoryOf(given)) {
			t.Errorf("Decode of a record with the Id %.40q answers its memory", id)
		}
		overwrite(given, '#')
		if r.Id != id || e != api.OK {
			t.Errorf("%.40q, not %.40q", r.Id, id)
		}
	}
}

func TestTwoAnswersShareNothing(t *testing.T) {
	for _, id := range someIds() {
		r := api.Record{Op: 2, Seq: 1, No: 2, Id: id}
		one, _ := rec.Encode(r)
		two, _ := rec.Encode(r)
		if within(memoryOf(one), memoryOf(two)) {
			t.Errorf("two Encodes with the Id %.40q answer the same memory", id)
		}
		overwrite(one, '#')
		wantEncode(t, r, two, api.OK)
		wantDecode(t, two, r, len(two), api.OK)
	}
}
