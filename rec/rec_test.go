package rec_test

import (
	"bytes"
	"encoding/binary"
	"hash/crc32"
	"math"
	"math/rand"
	"slices"
	"strings"
	"testing"

	"conduit/api"
	"conduit/rec"
)

// greatest: the greatest Seq and No.
const greatest = 4_294_967_295

// written: the bytes ahead of the check sum, and the right check sum behind them.
func written(ahead []byte) []byte {
	return binary.BigEndian.AppendUint32(bytes.Clone(ahead), crc32.ChecksumIEEE(ahead))
}

// record: a record's bytes, whatever its first byte is, and however long it says that its Id is.
func record(first byte, length uint16, seq, no uint32, id string) []byte {
	b := binary.BigEndian.AppendUint16([]byte{first}, length)
	b = binary.BigEndian.AppendUint32(b, seq)
	b = binary.BigEndian.AppendUint32(b, no)
	return written(append(b, id...))
}

// recordOf: the bytes of a record that has some.
func recordOf(r api.Record) []byte {
	return record(byte(192+r.Op), uint16(len(r.Id)), uint32(r.Seq), uint32(r.No), r.Id)
}

// oracle: what Decode answers, by the chapter's sentences.
func oracle(b []byte) (api.Record, int, api.Errno) {
	if len(b) == 0 {
		return api.Record{}, 0, api.OK
	}
	if b[0] != 193 && b[0] != 194 {
		return api.Record{}, 0, api.ErrRecord
	}
	if len(b) < 3 {
		return api.Record{}, 0, api.OK
	}
	size := int(binary.BigEndian.Uint16(b[1:]))
	if size > 4_096 {
		return api.Record{}, 0, api.ErrRecord
	}
	all := 1 + 2 + 4 + 4 + size + 4
	if len(b) < all {
		return api.Record{}, 0, api.OK
	}
	if binary.BigEndian.Uint32(b[all-4:]) != crc32.ChecksumIEEE(b[:all-4]) {
		return api.Record{}, 0, api.ErrRecord
	}
	return api.Record{
		Op:  int(b[0]) % 64,
		Seq: int(binary.BigEndian.Uint32(b[3:])),
		No:  int(binary.BigEndian.Uint32(b[7:])),
		Id:  string(b[11 : 11+size]),
	}, all, api.OK
}

func wantSum(t *testing.T, s string, want int) {
	t.Helper()
	if got := rec.Sum([]byte(s)); got != want {
		t.Errorf("Sum(%.40q) = %d, not %d", s, got, want)
	}
}

func wantEncode(t *testing.T, r api.Record, want []byte, errno api.Errno) {
	t.Helper()
	if got, e := rec.Encode(r); !bytes.Equal(got, want) || e != errno {
		t.Errorf("Encode(%d, %d, %d, %.40q of %d) = %.40q of %d, %d, not %.40q of %d, %d", r.Op, r.Seq, r.No, r.Id, len(r.Id), got, len(got), e, want, len(want), errno)
	}
}

func wantDecode(t *testing.T, b []byte, want api.Record, length int, errno api.Errno) {
	t.Helper()
	if got, n, e := rec.Decode(b); got != want || n != length || e != errno {
		t.Errorf("Decode(%.40q of %d) = %.60v, %d, %d, not %.60v, %d, %d", b, len(b), got, n, e, want, length, errno)
	}
}

// whole: the bytes are the record's, alone and with more bytes behind them.
func whole(t *testing.T, b []byte, r api.Record) {
	t.Helper()
	for _, behind := range []string{"", "\x00", "\xc1", "\xff\xff\xff", string(b), string(b[:len(b)-1])} {
		wantDecode(t, append(bytes.Clone(b), behind...), r, len(b), api.OK)
	}
}

// more: there is no whole record yet.
func more(t *testing.T, b []byte) {
	t.Helper()
	wantDecode(t, b, api.Record{}, 0, api.OK)
}

func wrong(t *testing.T, b []byte) {
	t.Helper()
	wantDecode(t, b, api.Record{}, 0, api.ErrRecord)
}

func wantAsOracle(t *testing.T, b []byte) {
	t.Helper()
	r, n, e := oracle(b)
	wantDecode(t, b, r, n, e)
}

// everyByte: a text with one byte of each value.
func everyByte() string {
	b := make([]byte, 256)
	for i := range b {
		b[i] = byte(i)
	}
	return string(b)
}

// someIds: Ids of the lengths at which something changes, of any bytes.
func someIds() []string {
	ids := []string{"", "\x00", "\xff", "a", "http://a/\n", "\r\n\xc1\xc2", "\u00e4\u20ac", "\xc3\x28", everyByte()}
	for _, n := range []int{1, 2, 254, 255, 256, 257, 4_095, 4_096} {
		ids = append(ids, strings.Repeat("i", n), strings.Repeat(everyByte(), 17)[1:1+n])
	}
	return ids
}

// someNumbers: right Seqs and Nos.
func someNumbers() []int {
	return []int{0, 1, 127, 128, 255, 256, 258, 65_535, 65_536, 16_777_215, 16_777_216, 0x01020304, math.MaxInt32, math.MaxInt32 + 1, greatest - 1, greatest}
}

// wrongNumbers: Seqs and Nos that don't fit, of which many do in their lowest 32 bits.
func wrongNumbers() []int {
	return []int{-1, -2, -255, -256, math.MinInt32, -greatest, -greatest - 1, greatest + 1, greatest + 2, 1 << 40, math.MaxInt, math.MaxInt - 1, math.MinInt, math.MinInt + 1}
}

// wrongOps: Ops that are none, of which many give a right first byte all the same.
func wrongOps() []int {
	return []int{0, 3, 4, -1, -2, -3, 65, 66, 129, 130, 192, 193, 194, 195, 257, 258, -63, -62, -255, -254, 1<<32 + 1, 1<<32 + 2, math.MaxInt, math.MinInt, math.MinInt + 1, math.MinInt + 2}
}

// someRecords: right ones, of both Ops, of many numbers and Ids.
func someRecords() []api.Record {
	var list []api.Record
	for _, op := range []int{api.RecordAdd, api.RecordDrop} {
		for _, id := range someIds() {
			list = append(list, api.Record{Op: op, Seq: 258, No: 4_095, Id: id})
		}
		for _, seq := range someNumbers() {
			for _, no := range someNumbers() {
				list = append(list, api.Record{Op: op, Seq: seq, No: no, Id: "an id"})
			}
		}
	}
	return list
}

// P10.1: Sum

func TestSumExamples(t *testing.T) {
	wantSum(t, "123456789", 3_421_780_262)
	wantSum(t, "", 0)
	if rec.Sum(nil) != 0 {
		t.Error("Sum of nil")
	}
	wantSum(t, "a", 0xe8b7be43)
	wantSum(t, "abc", 0x352441c2)
	wantSum(t, "The quick brown fox jumps over the lazy dog", 0x414fa339)
	wantSum(t, strings.Repeat("\x00", 32), 0x190a55ad)
	wantSum(t, strings.Repeat("\xff", 32), 0xff6cab0b)
}

func TestSumOfOneByteOfEachValue(t *testing.T) {
	wantSum(t, "\x00", 0xd202ef8d)
	wantSum(t, "\x01", 0xa505df1b)
	wantSum(t, "\x80", 0x3fba6cad)
	wantSum(t, "\xff", 0xff000000)
	seen := map[int]byte{}
	for i := range 256 {
		sum := rec.Sum([]byte{byte(i)})
		if other, found := seen[sum]; found {
			t.Errorf("%d and %d have the sum %d", other, i, sum)
		}
		seen[sum] = byte(i)
		wantSum(t, string([]byte{byte(i)}), int(crc32.ChecksumIEEE([]byte{byte(i)})))
	}
}

func TestSumOfTwoBytesOfEachValue(t *testing.T) {
	for i := range 65_536 {
		b := []byte{byte(i >> 8), byte(i)}
		wantSum(t, string(b), int(crc32.ChecksumIEEE(b)))
	}
}

func TestSumOfLongBytes(t *testing.T) {
	source := rand.New(rand.NewSource(10))
	for _, n := range []int{3, 4, 5, 7, 8, 9, 15, 16, 17, 63, 64, 65, 255, 256, 257, 4_096, 4_111, 65_536, 100_000, 1_000_003} {
		b := make([]byte, n)
		wantSum(t, string(b), int(crc32.ChecksumIEEE(b)))
		source.Read(b)
		wantSum(t, string(b), int(crc32.ChecksumIEEE(b)))
		b[n-1] ^= 128
		wantSum(t, string(b), int(crc32.ChecksumIEEE(b)))
		b[0] ^= 1
		wantSum(t, string(b), int(crc32.ChecksumIEEE(b)))
	}
}

func TestSumsHighestBit(t *testing.T) {
	high, low := 0, 0
	for i := range 256 {
		sum := rec.Sum([]byte{'x', byte(i)})
		if sum < 0 || sum > greatest {
			t.Errorf("Sum of x and %d is %d", i, sum)
		}
		if sum > math.MaxInt32 {
			high++
		} else {
			low++
		}
	}
	if high != 128 || low != 128 {
		t.Errorf("%d sums have the highest bit, %d haven't", high, low)
	}
	// Four bytes behind any others make the sum what one likes: also the least and the greatest one.
	for _, want := range []uint32{0, greatest} {
		b := binary.LittleEndian.AppendUint32([]byte("any"), ^crc32.ChecksumIEEE([]byte("any"))^ahead(^want))
		wantSum(t, string(b), int(want))
	}
}

// ahead: what the number of the check sum was ahead of 32 shifts.
func ahead(n uint32) uint32 {
	for range 32 {
		if n>>31 == 1 {
			n = (n^0xedb88320)<<1 | 1
		} else {
			n <<= 1
		}
	}
	return n
}

// P10.2: Encode

func TestEncodeExamples(t *testing.T) {
	b, e := rec.Encode(api.Record{Op: 1})
	if len(b) != 15 || b[0] != 193 || e != api.OK {
		t.Errorf("%q, %d", b, e)
	}
	wantEncode(t, api.Record{Op: api.RecordAdd}, written([]byte("\xc1\x00\x00\x00\x00\x00\x00\x00\x00\x00\x00")), api.OK)
	wantEncode(t, api.Record{Op: api.RecordDrop}, written([]byte("\xc2\x00\x00\x00\x00\x00\x00\x00\x00\x00\x00")), api.OK)
	wantEncode(t, api.Record{Op: 1, Seq: 0x01020304, No: 0xfedcba98, Id: "http://a/\n"}, written([]byte("\xc1\x00\x0a\x01\x02\x03\x04\xfe\xdc\xba\x98http://a/\n")), api.OK)
	wantEncode(t, api.Record{Op: 2, Seq: 258, No: greatest, Id: "ab"}, written([]byte("\xc2\x00\x02\x00\x00\x01\x02\xff\xff\xff\xffab")), api.OK)
}

func TestEncodeOfSomeRecords(t *testing.T) {
	for _, r := range someRecords() {
		wantEncode(t, r, recordOf(r), api.OK)
	}
}

func TestEncodeOfOps(t *testing.T) {
	for _, op := range wrongOps() {
		wantEncode(t, api.Record{Op: op, Seq: 1, No: 2, Id: "i"}, nil, api.ErrRecord)
	}
	for op := -1_000; op <= 1_000; op++ {
		if _, e := rec.Encode(api.Record{Op: op}); (e == api.OK) != (op == 1 || op == 2) {
			t.Errorf("Op %d: %d", op, e)
		}
	}
}

func TestEncodeOfNumbers(t *testing.T) {
	for _, op := range []int{api.RecordAdd, api.RecordDrop} {
		for _, n := range wrongNumbers() {
			wantEncode(t, api.Record{Op: op, Seq: n, No: 1, Id: "i"}, nil, api.ErrRecord)
			wantEncode(t, api.Record{Op: op, Seq: 1, No: n, Id: "i"}, nil, api.ErrRecord)
			wantEncode(t, api.Record{Op: op, Seq: n, No: n, Id: "i"}, nil, api.ErrRecord)
		}
	}
}

func TestEncodeOfLongIds(t *testing.T) {
	for n, errno := range map[int]api.Errno{4_095: 0, 4_096: 0, 4_097: api.ErrLong, 4_098: api.ErrLong, 65_535: api.ErrLong, 65_536: api.ErrLong, 65_537: api.ErrLong, 1 << 20: api.ErrLong} {
		b, e := rec.Encode(api.Record{Op: 1, Id: strings.Repeat("i", n)})
		if e != errno || errno == 0 && len(b) != n+15 || errno != 0 && len(b) != 0 {
			t.Errorf("an Id of %d bytes: %d bytes, %d", n, len(b), e)
		}
	}
}

func TestWhichErrorOfEncode(t *testing.T) {
	long := strings.Repeat("i", 4_097)
	wantEncode(t, api.Record{Op: 2, Seq: greatest, No: greatest, Id: long}, nil, api.ErrLong)
	for _, op := range wrongOps() {
		wantEncode(t, api.Record{Op: op, Id: long}, nil, api.ErrRecord)
	}
	for _, n := range wrongNumbers() {
		wantEncode(t, api.Record{Op: 1, Seq: n, Id: long}, nil, api.ErrRecord)
		wantEncode(t, api.Record{Op: 1, No: n, Id: long}, nil, api.ErrRecord)
		wantEncode(t, api.Record{Op: 3, Seq: n, No: n, Id: long}, nil, api.ErrRecord)
	}
}

// P10.3: Decode

func TestDecodeExamples(t *testing.T) {
	b, _ := rec.Encode(api.Record{Op: 1})
	more(t, b[:14])
	whole(t, b, api.Record{Op: 1})
	whole(t, written([]byte("\xc1\x00\x0a\x01\x02\x03\x04\xfe\xdc\xba\x98http://a/\n")), api.Record{Op: 1, Seq: 0x01020304, No: 0xfedcba98, Id: "http://a/\n"})
	whole(t, written([]byte("\xc2\x00\x02\x00\x00\x01\x02\xff\xff\xff\xffab")), api.Record{Op: 2, Seq: 258, No: greatest, Id: "ab"})
}

func TestDecodeOfNoBytes(t *testing.T) {
	more(t, nil)
	more(t, []byte{})
	more(t, []byte("\xc1\xc1")[:0])
}

func TestDecodeOfOneAndTwoBytes(t *testing.T) {
	for i := range 256 {
		told := wrong
		if i == 193 || i == 194 {
			told = more
		}
		told(t, []byte{byte(i)})
		for j := range 256 {
			told(t, []byte{byte(i), byte(j)})
		}
	}
}

func TestDecodeOfEachIdsLength(t *testing.T) {
	for _, first := range []byte{193, 194} {
		for n := range 65_536 {
			told := more
			if n > 4_096 {
				told = wrong
			}
			told(t, []byte{first, byte(n >> 8), byte(n)})
		}
	}
	for _, first := range []byte{0, 1, 2, 192, 195, 255} {
		wrong(t, []byte{first, 0, 0})
		wrong(t, []byte{first, 0x10, 0x00})
		wrong(t, []byte{first, 0x10, 0x01})
	}
}

func TestDecodeOfSomeRecords(t *testing.T) {
	for _, r := range someRecords() {
		whole(t, recordOf(r), r)
	}
}

func TestDecodeOfRecordsThatAreCut(t *testing.T) {
	for _, op := range []int{api.RecordAdd, api.RecordDrop} {
		for _, id := range someIds() {
			b := recordOf(api.Record{Op: op, Seq: greatest, No: 1, Id: id})
			for n := range b {
				more(t, b[:n])
				// What lies behind the length is no part of what is read.
				more(t, b[:n:n])
			}
		}
	}
}

func TestDecodeOfRecordsWithAnotherByte(t *testing.T) {
	for _, id := range []string{"", "i", "\xc1\xc2", strings.Repeat("\x00", 40), everyByte()} {
		b := recordOf(api.Record{Op: api.RecordAdd, Seq: 7, No: 9, Id: id})
		for i := range b {
			for turned := 1; turned < 256; turned++ {
				other := bytes.Clone(b)
				other[i] ^= byte(turned)
				if i != 1 && i != 2 {
					wrong(t, other)
				}
				wantAsOracle(t, other)
			}
		}
	}
}

func TestDecodeOfRecordsWithAnotherIdsLength(t *testing.T) {
	b := recordOf(api.Record{Op: api.RecordDrop, Seq: 7, No: 9, Id: "an id"})
	behind := strings.Repeat("behind", 1_000)
	for n := range 65_536 {
		other := bytes.Clone(b)
		binary.BigEndian.PutUint16(other[1:], uint16(n))
		switch {
		case n == 5:
			whole(t, other, api.Record{Op: api.RecordDrop, Seq: 7, No: 9, Id: "an id"})
		case n < 5 || n > 4_096:
			wrong(t, other)
			wrong(t, append(other, behind...))
		default:
			more(t, other)
			wrong(t, append(other, behind...))
		}
	}
}

func TestDecodeOfRecordsWithAnotherSum(t *testing.T) {
	for _, id := range []string{"", "an id", strings.Repeat("i", 4_096)} {
		b := recordOf(api.Record{Op: api.RecordDrop, Seq: 7, No: 9, Id: id})
		sum := binary.BigEndian.Uint32(b[len(b)-4:])
		for _, other := range []uint32{0, greatest, ^sum, sum + 1, sum - 1, sum ^ 1<<31, sum<<16 | sum>>16, crc32.ChecksumIEEE(b[1 : len(b)-4]), crc32.ChecksumIEEE([]byte(id))} {
			wrong(t, binary.BigEndian.AppendUint32(bytes.Clone(b[:len(b)-4]), other))
		}
		wrong(t, binary.LittleEndian.AppendUint32(bytes.Clone(b[:len(b)-4]), sum))
	}
}

func TestDecodeOfWrongRecordsWithTheRightSum(t *testing.T) {
	for i := range 256 {
		if i != 193 && i != 194 {
			wrong(t, record(byte(i), 2, 7, 9, "id"))
		}
	}
	whole(t, record(193, 4_096, 7, 9, strings.Repeat("i", 4_096)), api.Record{Op: 1, Seq: 7, No: 9, Id: strings.Repeat("i", 4_096)})
	for _, n := range []int{4_097, 4_098, 8_192, 65_535} {
		wrong(t, record(193, uint16(n), 7, 9, strings.Repeat("i", n)))
		wrong(t, record(194, uint16(n), 7, 9, strings.Repeat("i", n)))
	}
}

func TestWhichAnswerOfDecode(t *testing.T) {
	// A wrong first byte and a wrong length are told ahead of too few bytes, and these ahead of a wrong sum.
	long := record(193, 4_097, 7, 9, strings.Repeat("i", 4_097))
	for n := range long {
		if n < 3 {
			more(t, long[:n])
		} else {
			wrong(t, long[:n])
		}
	}
	strange := record(195, 2, 7, 9, "id")
	for n := 1; n < len(strange); n++ {
		wrong(t, strange[:n])
	}
	spoiled := append(recordOf(api.Record{Op: 1, Id: "id"})[:13], 1, 2, 3, 4)
	for n := range spoiled {
		more(t, spoiled[:n])
	}
	wrong(t, spoiled)
	wrong(t, append(spoiled, recordOf(api.Record{Op: 1, Id: "id"})...))
}

func TestRecordsBehindOneAnother(t *testing.T) {
	list := someRecords()
	var all []byte
	for _, r := range list {
		b, _ := rec.Encode(r)
		all = append(all, b...)
	}
	for _, want := range list {
		r, n, e := rec.Decode(all)
		if r != want || n != 15+len(want.Id) || e != api.OK {
			t.Fatalf("%.60v, %d, %d, not %.60v", r, n, e, want)
		}
		all = all[n:]
	}
	more(t, all)
}

func TestEncodedIsDecodedAsItWas(t *testing.T) {
	source := rand.New(rand.NewSource(1))
	for range 3_000 {
		id := make([]byte, source.Intn(1<<source.Intn(13)+1))
		source.Read(id)
		r := api.Record{Op: 1 + source.Intn(2), Seq: int(source.Uint32()) >> source.Intn(32), No: int(source.Uint32()) >> source.Intn(32), Id: string(id)}
		b, e := rec.Encode(r)
		if e != api.OK || len(b) != 15+len(id) || !bytes.Equal(b, recordOf(r)) {
			t.Fatalf("Encode(%.60v) = %.40q, %d", r, b, e)
		}
		wantDecode(t, b, r, len(b), api.OK)
		wantDecode(t, append(b, id...), r, len(b), api.OK)
	}
}

func TestDecodeOfAnyBytes(t *testing.T) {
	source := rand.New(rand.NewSource(2))
	for range 30_000 {
		b := make([]byte, source.Intn(40))
		source.Read(b)
		for i, ahead := range []byte{byte(193 + source.Intn(2)), 0, byte(source.Intn(30))} {
			if i < len(b) {
				b[i] = ahead
			}
		}
		wantAsOracle(t, b)
		if len(b) > 15 {
			wantAsOracle(t, append(written(b[:len(b)-4]), b...))
		}
	}
}

func FuzzDecode(f *testing.F) {
	for _, r := range someRecords()[:20] {
		f.Add(recordOf(r))
	}
	f.Fuzz(func(t *testing.T, b []byte) {
		wantAsOracle(t, b)
		if r, n, _ := rec.Decode(b); n > 0 {
			wantEncode(t, r, b[:n], api.OK)
		}
	})
}

func FuzzEncode(f *testing.F) {
	f.Add(1, 0, 0, "")
	f.Add(2, greatest, greatest+1, "id")
	f.Fuzz(func(t *testing.T, op, seq, no int, id string) {
		r := api.Record{Op: op, Seq: seq, No: no, Id: id}
		switch {
		case op < 1 || op > 2 || seq < 0 || seq > greatest || no < 0 || no > greatest:
			wantEncode(t, r, nil, api.ErrRecord)
		case len(id) > 4_096:
			wantEncode(t, r, nil, api.ErrLong)
		default:
			wantEncode(t, r, recordOf(r), api.OK)
			whole(t, recordOf(r), r)
		}
	})
}

// P1, P2

func TestCallsAnswerTheSameTwice(t *testing.T) {
	records := someRecords()
	for _, n := range slices.Concat(wrongOps(), wrongNumbers()) {
		records = append(records, api.Record{Op: n, Seq: n, No: n}, api.Record{Op: 1, Seq: n}, api.Record{Op: 2, No: n})
	}
	type told struct {
		b   string
		e   api.Errno
		sum int
	}
	var first []told
	for turn := range 2 {
		for i, r := range records {
			b, e := rec.Encode(r)
			now := told{string(b), e, rec.Sum(b)}
			if turn == 0 {
				first = append(first, now)
			} else if now != first[i] {
				t.Errorf("%.60v: first %.60v, then %.60v", r, first[i], now)
			}
			wantAsOracle(t, b)
		}
	}
}
