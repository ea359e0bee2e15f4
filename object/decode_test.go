package object_test

import (
	"bytes"
	"encoding/binary"
	"hash/crc32"
	"math"
	"math/rand"
	"slices"
	"strings"
	"testing"

	"conduit/api"
	"conduit/head"
	"conduit/object"
)

// P12.3: Decode

// oracle: what Decode answers, by the form of an entry's bytes, byte by byte.
func oracle(b []byte) (api.Entry, api.Errno) {
	rest, marked := strings.CutPrefix(string(b), "CO1")
	if !marked || len(b) < 4 || binary.BigEndian.Uint32(b[len(b)-4:]) != crc32.ChecksumIEEE(b[:len(b)-4]) {
		return api.Entry{}, api.ErrObject
	}
	var data []string
	for tag := byte(1); tag <= 5; tag++ {
		if len(rest) < 5 || rest[0] != tag {
			return api.Entry{}, api.ErrObject
		}
		n := int(binary.BigEndian.Uint32([]byte(rest[1:5])))
		if rest = rest[5:]; n > len(rest) {
			return api.Entry{}, api.ErrObject
		}
		data, rest = append(data, rest[:n]), rest[n:]
	}
	resp, n, errno := head.Response([]byte(data[2]))
	if len(rest) != 4 || errno != api.OK || n == 0 || headOf(resp) != data[2] || len(data[4]) != 16 {
		return api.Entry{}, api.ErrObject
	}
	asked, got := binary.BigEndian.Uint64([]byte(data[4])), binary.BigEndian.Uint64([]byte(data[4][8:]))
	if data[0] == "" || len(data[0]) > keyCap || len(data[1]) > keyCap || len(data[3]) > bodyCap || asked > timeCap || got > timeCap {
		return api.Entry{}, api.ErrObject
	}
	return api.Entry{Key: data[0], Vary: data[1], Resp: resp, Body: []byte(data[3]), Asked: int(asked), Got: int(got)}, api.OK
}

// wantAsOracle: Decode answers as the oracle, and what it answers has these bytes.
func wantAsOracle(t *testing.T, b []byte) {
	t.Helper()
	e, errno := oracle(b)
	wantDecode(t, b, e, errno)
	if errno == api.OK {
		wantEncode(t, e, b, api.OK)
	}
}

// with: the sections of the entry, of which one is another.
func with(e api.Entry, at int, p part) []part {
	parts := partsOf(e)
	parts[at] = p
	return parts
}

// holding: the bytes of the entry with other data in one of its sections, and with a right length.
func holding(e api.Entry, at int, data string) []byte {
	return file(with(e, at, right(byte(at+1), data))...)
}

// someFiles: entries of which Decode is held against all kinds of faults.
func someFiles() []api.Entry {
	return []api.Entry{simple(), usual(), turned(usual(), func(e *api.Entry) { e.Key = strings.Repeat("k", 300) }), turned(usual(), func(e *api.Entry) { e.Body = anyBytes258() })}
}

func TestDecodeExamples(t *testing.T) {
	b, _ := object.Encode(simple())
	wantDecode(t, b, simple(), api.OK)
	refused(t, b[:len(b)-1])
	refused(t, append(b, 0))
}

func TestDecodeOfRightEntries(t *testing.T) {
	for _, e := range rightEntries() {
		b := fileOf(e)
		wantDecode(t, b, e, api.OK)
		wantAsOracle(t, b)
	}
}

func TestWhatIsEncodedIsDecodedAsItWas(t *testing.T) {
	for _, e := range rightEntries() {
		b, _ := object.Encode(e)
		decoded, errno := object.Decode(b)
		if !same(decoded, e) || errno != api.OK {
			t.Errorf("%s, not %s", short(decoded), short(e))
		}
		wantEncode(t, decoded, b, api.OK)
	}
}

func TestDecodeOfBytesThatAreNothing(t *testing.T) {
	for _, s := range []string{"", "C", "CO", "CO1", "CO1\x01", "CO1\x01\x00\x00\x00", "CO1\x01\x00\x00\x00\x00", "CO1\x00\x00\x00\x00", "HTTP/1.1 200 OK\r\n\r\n", "\x00", "\xff\xff\xff\xff", "\xc1\x00\x00"} {
		refused(t, []byte(s))
		refused(t, summed(s))
	}
	refused(t, nil)
	refused(t, file())
	for i := range 200 {
		refused(t, make([]byte, i))
		refused(t, bytes.Repeat([]byte{0xff}, i))
		refused(t, summed("CO1"+strings.Repeat("\x00", i)))
	}
}

func TestDecodeOfCutBytes(t *testing.T) {
	for _, e := range append(someFiles(), greatest()) {
		b := fileOf(e)
		for i := range b {
			refused(t, b[:i])
		}
	}
	// Nor does a right check sum behind the cut help.
	for _, e := range someFiles() {
		b := fileOf(e)
		for i := range len(b) - 4 {
			refused(t, summed(string(b[:i])))
		}
	}
}

func TestDecodeOfBytesWithoutTheirBeginning(t *testing.T) {
	for _, e := range someFiles() {
		b := fileOf(e)
		for i := 1; i < len(b); i++ {
			refused(t, b[i:])
			refused(t, summed(string(b[min(i, len(b)-4):len(b)-4])))
		}
	}
}

func TestDecodeOfMoreBytes(t *testing.T) {
	for _, e := range append(someFiles(), greatest()) {
		b := fileOf(e)
		for c := range 256 {
			refused(t, append(bytes.Clone(b), byte(c)))
		}
		for _, more := range []string{"\r\n", "CO1", "\x06\x00\x00\x00\x00", string(b), string(b[len(b)-4:])} {
			refused(t, append(bytes.Clone(b), more...))
			refused(t, append([]byte(more), b...))
			refused(t, summed(string(b)+more))
			refused(t, summed(string(b[:len(b)-4])+more))
		}
		// With a right check sum behind a byte more, ahead of it or behind the old one.
		refused(t, summed(string(b)))
		refused(t, summed(string(b[:len(b)-4])+"\x00"))
		refused(t, file(append(partsOf(e), right(6, ""))...))
		refused(t, file(append(partsOf(e), right(6, "more"))...))
		refused(t, file(append(partsOf(e), right(0, ""))...))
	}
}

func TestDecodeOfTurnedBytes(t *testing.T) {
	for _, e := range []api.Entry{simple(), usual()} {
		b := fileOf(e)
		for i := range b {
			for turn := 1; turn < 256; turn++ {
				b[i] ^= byte(turn)
				refused(t, b)
				b[i] ^= byte(turn)
			}
		}
		wantDecode(t, b, e, api.OK)
	}
	b := fileOf(greatest())
	for i := 0; i < len(b); i += 397 {
		b[i] ^= 1
		refused(t, b)
		b[i] ^= 1
	}
}

// Each byte is turned to each other value, and the check sum is made right again: what is no entry then is told by its form alone.
func TestDecodeOfTurnedBytesWithARightSum(t *testing.T) {
	for _, e := range []api.Entry{simple(), usual()} {
		ahead := fileOf(e)
		ahead = ahead[:len(ahead)-4]
		taken := 0
		for i := range ahead {
			for turn := 1; turn < 256; turn++ {
				ahead[i] ^= byte(turn)
				b := summed(string(ahead))
				wantAsOracle(t, b)
				if _, errno := object.Decode(b); errno == api.OK {
					taken++
				}
				ahead[i] ^= byte(turn)
			}
		}
		if taken < 255 {
			t.Errorf("only %d are entries", taken)
		}
	}
}

func TestDecodeOfOtherMarks(t *testing.T) {
	for _, e := range someFiles() {
		b := string(fileOf(e))
		behind := b[3 : len(b)-4]
		for _, mark := range []string{"", "C", "CO", "CO0", "CO2", "co1", "OC1", "CO11", "CO1\x00", "\x00\x00\x00", "   ", "C01"} {
			refused(t, summed(mark+behind))
		}
		wantDecode(t, summed("CO1"+behind), e, api.OK)
	}
}

func TestDecodeOfOtherTags(t *testing.T) {
	for _, e := range someFiles() {
		for at, p := range partsOf(e) {
			for tag := range 256 {
				b := file(with(e, at, part{byte(tag), p.length, p.data})...)
				if tag == at+1 {
					wantDecode(t, b, e, api.OK)
				} else {
					refused(t, b)
				}
			}
		}
	}
}

// orders: all orders of n things.
func orders(n int) [][]int {
	if n == 0 {
		return [][]int{nil}
	}
	var all [][]int
	for _, order := range orders(n - 1) {
		for at := range n {
			all = append(all, slices.Insert(slices.Clone(order), at, n-1))
		}
	}
	return all
}

// alike: an entry whose sections could be taken for one another.
func alike() api.Entry {
	return turned(simple(), func(e *api.Entry) {
		e.Key, e.Vary, e.Body = headOf(e.Resp), headOf(e.Resp), []byte(headOf(e.Resp))
	})
}

func TestDecodeOfSectionsInAnotherOrder(t *testing.T) {
	for _, e := range append(someFiles(), alike()) {
		parts := partsOf(e)
		for _, order := range orders(5) {
			var other, renumbered []part
			for i, at := range order {
				other = append(other, parts[at])
				renumbered = append(renumbered, right(byte(i+1), parts[at].data))
			}
			if slices.IsSorted(order) {
				wantDecode(t, file(other...), e, api.OK)
			} else {
				refused(t, file(other...))
			}
			// With the tags in order, the data tell whether it is an entry.
			wantAsOracle(t, file(renumbered...))
		}
	}
}

func TestDecodeOfSectionsTwiceOrLeftOut(t *testing.T) {
	for _, e := range append(someFiles(), alike()) {
		parts := partsOf(e)
		for at, p := range parts {
			refused(t, file(slices.Delete(slices.Clone(parts), at, at+1)...))
			for to := range len(parts) + 1 {
				refused(t, file(slices.Insert(slices.Clone(parts), to, p)...))
				refused(t, file(slices.Insert(slices.Clone(parts), to, right(p.tag, ""))...))
			}
			for to := range parts {
				if to != at {
					refused(t, file(with(e, to, p)...))
				}
			}
			refused(t, file(p))
			refused(t, file(parts[:at]...))
		}
	}
}

func TestDecodeOfWrongLengths(t *testing.T) {
	for _, e := range append(someFiles(), alike(), greatest()) {
		size := uint32(len(fileOf(e)))
		for at, p := range partsOf(e) {
			for _, n := range []uint32{0, 1, p.length - 1, p.length + 1, p.length + 4, p.length + 5, p.length + 6, p.length + 256, p.length + 1<<16, p.length + 1<<24, p.length + 1<<31, size, size - 4, size + 1, 100_000, math.MaxInt32, math.MaxInt32 + 1, math.MaxUint32 - 4, math.MaxUint32} {
				if n != p.length {
					refused(t, file(with(e, at, part{p.tag, n, p.data})...))
				}
			}
		}
	}
}

// Each length up to beyond the bytes' end.
func TestDecodeOfEachLength(t *testing.T) {
	for _, e := range []api.Entry{simple(), usual(), alike()} {
		for at, p := range partsOf(e) {
			for n := range uint32(len(fileOf(e)) + 20) {
				b := file(with(e, at, part{p.tag, n, p.data})...)
				if n == p.length {
					wantDecode(t, b, e, api.OK)
				} else {
					refused(t, b)
				}
			}
		}
	}
}

func TestDecodeOfWrongSums(t *testing.T) {
	for _, e := range someFiles() {
		b := fileOf(e)
		ahead, sum := b[:len(b)-4], crc32.ChecksumIEEE(b[:len(b)-4])
		others := []uint32{0, math.MaxUint32, ^sum, sum + 1, sum - 1, crc32.ChecksumIEEE(b), crc32.ChecksumIEEE(b[3 : len(b)-4]), crc32.Checksum(ahead, crc32.MakeTable(crc32.Castagnoli))}
		for bit := range 32 {
			others = append(others, sum^1<<bit)
		}
		for _, other := range others {
			refused(t, binary.BigEndian.AppendUint32(bytes.Clone(ahead), other))
		}
		refused(t, binary.LittleEndian.AppendUint32(bytes.Clone(ahead), sum))
		refused(t, bytes.Clone(ahead))
		wantDecode(t, b, e, api.OK)
	}
}

// wrongHeads: what is read as a response, perhaps, but isn't the form that head.PrintResponse writes.
func wrongHeads() []string {
	heads := []string{
		"", "\r\n", "\r\n\r\n", "H", "HTTP/1.1 200 OK", "HTTP/1.1 200 OK\r\n", "HTTP/1.1 200 OK\r\nA: b\r\n", "HTTP/1.1 200 OK\r\n\r",
		"HTTP/1.1 200\r\n\r\n", "HTTP/1.1 200\r\nA: b\r\n\r\n", "HTTP/1.1  200 OK\r\n\r\n", "HTTP/1.1\t200 OK\r\n\r\n", "HTTP/1.1 200\tOK\r\n\r\n",
		"HTTP/1.1 200 OK\r\nA:b\r\n\r\n", "HTTP/1.1 200 OK\r\nA:\r\n\r\n", "HTTP/1.1 200 OK\r\nA:\tb\r\n\r\n", "HTTP/1.1 200 OK\r\nA:  b\r\n\r\n", "HTTP/1.1 200 OK\r\nA: b \r\n\r\n", "HTTP/1.1 200 OK\r\nA: b\t\r\n\r\n", "HTTP/1.1 200 OK\r\nA:  \r\n\r\n",
		"HTTP/1.1 200 OK\r\nA : b\r\n\r\n", "HTTP/1.1 200 OK\r\n: b\r\n\r\n", "HTTP/1.1 200 OK\r\nA\r\n\r\n", "HTTP/1.1 200 OK\r\nA: b\r\n c\r\n\r\n", "HTTP/1.1 200 OK\r\n A: b\r\n\r\n", "HTTP/1.1 200 OK\r\nA: \x00\r\n\r\n", "HTTP/1.1 200 OK\r\nA: b\nC: d\r\n\r\n",
		"HTTP/1.1 200 OK\r\n\r\nx", "HTTP/1.1 200 OK\r\n\r\n\r\n", "HTTP/1.1 200 OK\r\n\r\nHTTP/1.1 200 OK\r\n\r\n", "\r\nHTTP/1.1 200 OK\r\n\r\n", " HTTP/1.1 200 OK\r\n\r\n",
		"HTTP/1.2 200 OK\r\n\r\n", "HTTP/2.0 200 OK\r\n\r\n", "HTTP/0.9 200 OK\r\n\r\n", "http/1.1 200 OK\r\n\r\n", "HTTP/1.1 099 OK\r\n\r\n", "HTTP/1.1 600 OK\r\n\r\n", "HTTP/1.1 20 OK\r\n\r\n", "HTTP/1.1 0200 OK\r\n\r\n", "HTTP/1.1 200 O\x00K\r\n\r\n", "HTTP/1.1 200 O\nK\r\n\r\n",
		"HTTP/1.1 200 OK\n\n", "GET / HTTP/1.1\r\nHost: a\r\n\r\n",
	}
	for _, r := range []api.Response{longResponse(headCap + 1), longResponse(bodyCap), manyFields(101)} {
		heads = append(heads, headOf(r))
	}
	return append(heads, strings.Repeat("x", headCap-1), strings.Repeat("x", headCap), headOf(longResponse(headCap))+"x")
}

func TestDecodeOfWrongHeads(t *testing.T) {
	for _, e := range []api.Entry{simple(), usual(), greatest()} {
		for _, s := range wrongHeads() {
			refused(t, holding(e, 2, s))
		}
		for _, r := range someResponses()[:20] {
			wantDecode(t, holding(e, 2, headOf(r)), turned(e, func(e *api.Entry) { e.Resp = r }), api.OK)
		}
	}
}

// Each text that is a byte away from a head, taken out, put in or another, with a right length and a right check sum.
func TestDecodeOfHeadsAByteAway(t *testing.T) {
	s := "HTTP/1.1 200 \r\nA: b\r\nc: \r\n\r\n"
	wantDecode(t, holding(simple(), 2, s), turned(simple(), func(e *api.Entry) { e.Resp.Fields = []api.Field{{Name: "A", Value: "b"}, {Name: "c"}} }), api.OK)
	for i := range len(s) + 1 {
		if i < len(s) {
			wantAsOracle(t, holding(simple(), 2, s[:i]+s[i+1:]))
		}
		for c := range 256 {
			put := s[:i] + string([]byte{byte(c)})
			wantAsOracle(t, holding(simple(), 2, put+s[i:]))
			wantAsOracle(t, holding(simple(), 2, put+s[min(i+1, len(s)):]))
		}
	}
}

func TestDecodeBeyondTheLimits(t *testing.T) {
	for _, e := range []api.Entry{simple(), usual(), greatest()} {
		for at, limit := range map[int]int{0: keyCap, 1: keyCap, 3: bodyCap} {
			for _, n := range []int{limit + 1, limit + 2, limit + 4_096, 2 * limit, 10 * limit, 1_000_000} {
				refused(t, holding(e, at, strings.Repeat("x", n)))
			}
			for _, n := range []int{1, limit - 1, limit} {
				wantAsOracle(t, holding(e, at, strings.Repeat("x", n)))
			}
		}
		refused(t, holding(e, 0, ""))
		wantDecode(t, holding(e, 1, ""), turned(e, func(e *api.Entry) { e.Vary = "" }), api.OK)
		wantDecode(t, holding(e, 3, ""), turned(e, func(e *api.Entry) { e.Body = nil }), api.OK)
	}
}

func TestDecodeOfTimes(t *testing.T) {
	for _, e := range []api.Entry{simple(), usual()} {
		for _, n := range someSeconds() {
			wantDecode(t, holding(e, 4, times(n, 7)), turned(e, func(e *api.Entry) { e.Asked, e.Got = n, 7 }), api.OK)
			wantDecode(t, holding(e, 4, times(7, n)), turned(e, func(e *api.Entry) { e.Asked, e.Got = 7, n }), api.OK)
		}
		for _, n := range wrongSeconds() {
			refused(t, holding(e, 4, times(n, 7)))
			refused(t, holding(e, 4, times(7, n)))
			refused(t, holding(e, 4, times(n, n)))
		}
		for n := range 40 {
			wantAsOracle(t, holding(e, 4, strings.Repeat("\x00", n)))
			if n != 16 {
				refused(t, holding(e, 4, strings.Repeat("\x00", n)))
			}
		}
		refused(t, holding(e, 4, times(1, 2)+"\x00"))
		refused(t, holding(e, 4, times(1, 2)[1:]))
		refused(t, holding(e, 4, times(1, 2)+times(1, 2)))
	}
}

func TestDecodeOfBytesThatAreMuchTooLong(t *testing.T) {
	b := fileOf(greatest())
	for _, n := range []int{1, 18_000, 18_100, 20_000, 300_000, 1_000_000, 20_000_000} {
		refused(t, append(bytes.Clone(b), make([]byte, n)...))
		refused(t, append(fileOf(simple()), make([]byte, n)...))
		refused(t, make([]byte, n))
		refused(t, bytes.Repeat([]byte("CO1"), n/3))
	}
	for at := range 5 {
		refused(t, holding(usual(), at, strings.Repeat("x", 3_000_000)))
		refused(t, file(with(usual(), at, part{byte(at + 1), math.MaxUint32, strings.Repeat("x", 3_000_000)})...))
	}
	refused(t, file(slices.Repeat(partsOf(usual()), 3_000)...))
}

func TestDecodeOfAnyBytes(t *testing.T) {
	source := rand.New(rand.NewSource(12))
	for range 30_000 {
		b := make([]byte, source.Intn(120))
		source.Read(b)
		wantAsOracle(t, b)
		wantAsOracle(t, summed("CO1"+string(b)))
	}
	// Right entries with some changes, and a right check sum behind them.
	for range 30_000 {
		e := someFiles()[source.Intn(2)]
		b := fileOf(e)
		b = b[:len(b)-4]
		for range 1 + source.Intn(3) {
			at := source.Intn(len(b))
			switch source.Intn(4) {
			case 0:
				b = slices.Delete(b, at, at+1)
			case 1:
				b = slices.Insert(b, at, byte(source.Intn(8)))
			case 2:
				b[at] += byte(1 + source.Intn(3))
			case 3:
				b[at] = "\r\n :\x00\x01\x02CO"[source.Intn(9)]
			}
		}
		wantAsOracle(t, summed(string(b)))
	}
}

// Sections of any data, in their order and of right lengths.
func TestDecodeOfAnySections(t *testing.T) {
	source := rand.New(rand.NewSource(1_200))
	heads := append(wrongHeads()[:40], "HTTP/1.1 200 \r\n\r\n", "HTTP/1.0 404 No\r\nA: b\r\n\r\n", "HTTP/1.1 304 \r\nA: \r\n\r\n")
	taken := 0
	for range 5_000 {
		s := heads[source.Intn(len(heads))]
		if source.Intn(2) == 0 {
			s = heads[len(heads)-1-source.Intn(3)]
		}
		seconds := append(someSeconds(), wrongSeconds()[:3]...)
		b := file(
			right(1, anyBytes(source.Intn(5))), right(2, anyBytes(source.Intn(5))), right(3, s), right(4, anyBytes(source.Intn(300))),
			right(5, times(seconds[source.Intn(len(seconds))], seconds[source.Intn(len(seconds))])),
		)
		wantAsOracle(t, b)
		if _, errno := object.Decode(b); errno == api.OK {
			taken++
		}
	}
	if taken < 500 || taken > 4_500 {
		t.Errorf("%d of 5,000 are entries", taken)
	}
}
