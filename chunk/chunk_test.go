package chunk_test

import (
	"bytes"
	"math"
	"reflect"
	"regexp"
	"slices"
	"strconv"
	"strings"
	"testing"
	"unsafe"

	"conduit/api"
	"conduit/chunk"
	"conduit/fields"
)

// The limits as the document says them.
const (
	bodyCap = 65536
	headCap = 8192
	lineCap = 200
)

// pairs: the fields of names and values by turns.
func pairs(texts ...string) []api.Field {
	var list []api.Field
	for i := 0; i < len(texts); i += 2 {
		list = append(list, api.Field{Name: texts[i], Value: texts[i+1]})
	}
	return list
}

// short: a text of which no more than its beginning and its length are told.
func short(s string) string {
	if len(s) > 100 {
		return strconv.Quote(s[:100]) + ".. of " + strconv.Itoa(len(s)) + " bytes"
	}
	return strconv.Quote(s)
}

func wantDecode(t *testing.T, s, data string, list []api.Field, length int, errno api.Errno) {
	t.Helper()
	if got, gotList, n, e := chunk.Decode([]byte(s)); string(got) != data || !slices.Equal(gotList, list) || n != length || e != errno {
		t.Errorf("Decode(%s) = %s, %d fields, %d, %d; want %s, %d fields, %d, %d", short(s), short(string(got)), len(gotList), n, e, short(data), len(list), length, errno)
	}
}

// whole: the text is one body, whatever stands behind it, and no beginning of it is one.
func whole(t *testing.T, s, data string, list ...string) {
	t.Helper()
	for _, behind := range []string{"", "x", "\r\n", "\r\n\r\n", "0\r\n\r\n", "\x00\n", s, strings.Repeat("y", 2*headCap)} {
		wantDecode(t, s+behind, data, pairs(list...), len(s), api.OK)
	}
	step := max(1, len(s)/500)
	for i := 0; i < len(s); i += step {
		more(t, s[:i])
	}
	more(t, s[:len(s)-1])
}

// wrong: with an error all else is its zero value, and what comes later changes nothing of it.
func wrong(t *testing.T, errno api.Errno, texts ...string) {
	t.Helper()
	for _, s := range texts {
		for _, behind := range []string{"", "x", "\r\n", "\n", "\r\n\r\n", "0\r\n\r\n", strings.Repeat("y", 2*bodyCap)} {
			wantDecode(t, s+behind, "", nil, 0, errno)
		}
	}
}

// more: where more is needed all is its zero value.
func more(t *testing.T, texts ...string) {
	t.Helper()
	for _, s := range texts {
		wantDecode(t, s, "", nil, 0, api.OK)
	}
}

func wantEncode(t *testing.T, data string, size int, list []api.Field, want string, errno api.Errno) {
	t.Helper()
	if got, e := chunk.Encode([]byte(data), size, list); string(got) != want || e != errno {
		t.Errorf("Encode(%s, %d, %d fields) = %s, %d; want %s, %d", short(data), size, len(list), short(string(got)), e, short(want), errno)
	}
}

// everyByte: the 256 texts of one byte.
func everyByte() []string {
	var all []string
	for c := range 256 {
		all = append(all, string([]byte{byte(c)}))
	}
	return all
}

// everyText: all texts of at most n parts out of an alphabet of parts.
func everyText(n int, alphabet ...string) []string {
	all := []string{""}
	for from := 0; n > 0; n-- {
		to := len(all)
		for _, s := range all[from:to] {
			for _, part := range alphabet {
				all = append(all, s+part)
			}
		}
		from = to
	}
	return all
}

func isText(s string) bool {
	return s == "\t" || s >= " " && s != "\x7f"
}

// sizeText: a size in so many digits.
func sizeText(size, digits int) string {
	s := strconv.FormatInt(int64(size), 16)
	return strings.Repeat("0", max(0, digits-len(s))) + s
}

// piece: a chunk of so many bytes.
func piece(size int) string {
	return sizeText(size, 1) + "\r\n" + strings.Repeat("x", size) + "\r\n"
}

// filled: the text with as many bytes of filling at its mark that it has n bytes.
func filled(s, filling string, n int) string {
	ahead, behind, _ := strings.Cut(s, "<>")
	return ahead + strings.Repeat(filling, n-len(ahead)-len(behind)) + behind
}

// P7.1: Decode

func TestDecodeExamples(t *testing.T) {
	wantDecode(t, "3\r\nabc\r\n0\r\n\r\nx", "abc", nil, 13, api.OK)
	wantDecode(t, "3\r\nab", "", nil, 0, api.OK)
	wantDecode(t, "3;x=y\r\nabc\r\n0\r\nA: b\r\n\r\n", "abc", pairs("A", "b"), 23, api.OK)
	wantDecode(t, "g\r\n", "", nil, 0, api.ErrChunk)
	wantDecode(t, "3\r\nabcd\r\n", "", nil, 0, api.ErrChunk)
}

func TestDecodeOfNoBytes(t *testing.T) {
	for _, b := range [][]byte{nil, {}, []byte("0\r\n\r\n")[:0]} {
		if data, list, n, e := chunk.Decode(b); len(data) != 0 || len(list) != 0 || n != 0 || e != api.OK {
			t.Errorf("Decode of no bytes = %q, %q, %d, %d", data, list, n, e)
		}
	}
}

func TestDecode(t *testing.T) {
	whole(t, "0\r\n\r\n", "")
	whole(t, "1\r\na\r\n0\r\n\r\n", "a")
	whole(t, "3\r\nabc\r\n1\r\nd\r\n0\r\n\r\n", "abcd")
	whole(t, "1\r\na\r\n1\r\nb\r\n1\r\nc\r\n0\r\n\r\n", "abc")
	whole(t, "00A\r\n0123456789\r\n0\r\nA: b\r\n\r\n", "0123456789", "A", "b")
	whole(t, "f;a;b=\"c;d\"\r\n0123456789abcde\r\n2;\r\nyz\r\n000;x\r\na:\r\nA:  B \r\nc: \td,\te\t\r\n\r\n", "0123456789abcdeyz", "a", "", "A", "B", "c", "d,\te")
	// What the data are is nobody's business.
	for _, data := range []string{"\r\n", "\r\n\r\n", "0\r\n\r\n", "3\r\nabc\r\n", "\n", "\r", "\x00\xff", ";", "A: b\r\n\r\n"} {
		whole(t, sizeText(len(data), 1)+"\r\n"+data+"\r\n0\r\n\r\n", data)
	}
	for _, c := range everyByte() {
		whole(t, "1\r\n"+c+"\r\n3\r\n"+c+c+c+"\r\n0\r\n\r\n", c+c+c+c)
	}
}

func TestBytesBehindTheEnd(t *testing.T) {
	for _, s := range everyByte() {
		wantDecode(t, "1\r\na\r\n0\r\n\r\n"+s, "a", nil, 11, api.OK)
		wantDecode(t, "0\r\nA: b\r\n\r\n"+s, "", pairs("A", "b"), 11, api.OK)
		wantDecode(t, "0\r\n\r\n"+s+"\r\n\r\n", "", nil, 5, api.OK)
	}
	// An empty line is the end, even if more lines and another end stand behind it.
	wantDecode(t, "0\r\n\r\nA: b\r\n\r\n", "", nil, 5, api.OK)
	wantDecode(t, "0\r\n\r\n\r\n\r\n", "", nil, 5, api.OK)
	wantDecode(t, "0\r\n\r\n"+strings.Repeat("a", 100000), "", nil, 5, api.OK)
	wantDecode(t, "0\r\nA: b\r\n\r\nC: d\r\n\r\n", "", pairs("A", "b"), 11, api.OK)
	wantDecode(t, "0\r\nA: b\r\n\r\n"+strings.Repeat("a", 100000), "", pairs("A", "b"), 11, api.OK)
}

// The size line

func TestSizeLinesWithoutATen(t *testing.T) {
	for _, s := range []string{"<>", "3;<>", "<>\r", "3\r<>", "g<>", ";<>", "\x00<>"} {
		for _, filling := range []string{"0", "a", "\r", ";", "g", "\xff", "\x00"} {
			for _, ahead := range []string{"", "1\r\na\r\n", piece(1000)} {
				for _, n := range []int{2, 100, lineCap - 2, lineCap - 1} {
					more(t, ahead+filled(s, filling, n))
				}
				for _, n := range []int{lineCap, lineCap + 1, lineCap + 2, 1000, 100000} {
					wrong(t, api.ErrChunk, ahead+filled(s, filling, n))
				}
			}
		}
	}
}

func TestLongestSizeLines(t *testing.T) {
	for _, n := range []int{lineCap - 2, lineCap - 1, lineCap} {
		whole(t, filled("3;<>\r\n", "a", n)+"abc\r\n0\r\n\r\n", "abc")
		whole(t, filled("3;<>\r\n", ";", n)+"abc\r\n"+filled("1;<>\r\n", "\xff", n)+"d\r\n"+filled("0;<>\r\n", "\t", n)+"A: b\r\n\r\n", "abcd", "A", "b")
	}
	for _, n := range []int{lineCap + 1, lineCap + 2, 1000, 100000} {
		wrong(t, api.ErrChunk, filled("3;<>\r\n", "a", n)+"abc\r\n0\r\n\r\n", filled("0;<>\r\n", "a", n)+"\r\n", "1\r\na\r\n"+filled("0;<>\r\n", "a", n)+"\r\n", filled("<>\r\n", "0", n))
		// It is told ahead of the size.
		wrong(t, api.ErrChunk, filled("ffffffff;<>\r\n", "a", n))
	}
	wantDecode(t, filled("10001;<>\r\n", "a", lineCap), "", nil, 0, api.ErrBody)
}

func TestHalfEndsOfSizeLines(t *testing.T) {
	for _, ahead := range []string{"", "1\r\na\r\n", "2;x\r\n\r\n\r\n"} {
		wrong(t, api.ErrChunk, ahead+"\n", ahead+"3\n", ahead+"3\nabc\r\n", ahead+"0\n\r\n", ahead+"0\n\n", ahead+"3;x\n", ahead+"3 \n", ahead+"\r\n", ahead+"\n\r\n", ahead+"\r\r\n")
		wrong(t, api.ErrChunk, ahead+"3\r\r\nabc\r\n", ahead+"3\rx\n", ahead+"\r3\r\n", ahead+"3\r;x\r\n", ahead+"3;\r\r\n", ahead+"3;x\ry\r\n", ahead+"0\r\r\n")
		more(t, ahead+"3\r", ahead+"\r", ahead+"\r\r", ahead+"3\rx", ahead+"g", ahead+"zz;\x00", ahead+" ")
	}
}

func TestDigitsOfASize(t *testing.T) {
	data := strings.Repeat("y", 0xabc)
	for _, digits := range []string{"abc", "ABC", "aBc", "AbC", "0abc", "0ABC", "00000abc", "00000AbC"} {
		whole(t, digits+"\r\n"+data+"\r\n0\r\n\r\n", data)
	}
	for _, digits := range []string{"", "000000abc", "000000001", "000000000", "100000000", "123456789", "fffffffff", "00000000000000000", "10000000000000000", "10000000000000001", "ffffffffffffffff", strings.Repeat("0", 198)} {
		wrong(t, api.ErrChunk, digits+"\r\n", digits+";\r\n", digits+";x\r\n", "1\r\na\r\n"+digits+"\r\n")
	}
	for _, digits := range []string{" 1", "1 ", "\t1", "1\t", " ", "+1", "-1", "-0", "+0", "0x1", "0X1", "x1", "1h", "1H", "h1", "$1", "#1", "1_0", "_1", "1_", "1.0", "1,1", "1e+1", "0o1", "\"1\"", "1\x00", "\x001", "١", "１", "g", "G", "/", ":", "@", "`", "1 ;x", " ;x"} {
		wrong(t, api.ErrChunk, digits+"\r\n", digits+";x\r\n", digits+"\r\na\r\n0\r\n\r\n", "1\r\na\r\n"+digits+"\r\n")
	}
	for size := 1; size < 300; size++ {
		for digits := 1; digits <= 8; digits++ {
			small := sizeText(size, digits)
			for _, s := range []string{small, strings.ToUpper(small)} {
				wantDecode(t, s+"\r\n"+strings.Repeat("y", size)+"\r\n0\r\n\r\n", strings.Repeat("y", size), nil, len(s)+size+9, api.OK)
			}
		}
		wrong(t, api.ErrChunk, sizeText(size, 9)+"\r\n")
	}
}

func TestEachByteOfASizeLine(t *testing.T) {
	for _, c := range everyByte() {
		n, err := strconv.ParseUint(c, 16, 8)
		if err != nil && c != ";" && c != "\n" {
			wrong(t, api.ErrChunk, c+"\r\n", c+"1\r\n", "1"+c+"\r\n", "1"+c+"2\r\n", "1"+c+";\r\n", c+";x\r\n", "1\r\na\r\n1"+c+"\r\nb\r\n")
		}
		if err == nil {
			size := int(n) + 16
			whole(t, "1"+c+"\r\n"+strings.Repeat("y", size)+"\r\n0\r\n\r\n", strings.Repeat("y", size))
		}
		for _, behind := range []string{c, "x" + c, c + "x", "x" + c + "y", c + c, ";" + c, c + ";"} {
			line := "2;" + behind + "\r\n"
			if isText(c) {
				wantDecode(t, line+"ab\r\n0\r\n\r\n", "ab", nil, len(line)+9, api.OK)
				wantDecode(t, "0;"+behind+"\r\n\r\n", "", nil, len(line)+2, api.OK)
			} else {
				wrong(t, api.ErrChunk, line+"ab\r\n0\r\n\r\n", "0;"+behind+"\r\n\r\n")
			}
		}
	}
}

func TestNothingBehindASemicolon(t *testing.T) {
	whole(t, "2;\r\nab\r\n0;\r\n\r\n", "ab")
	whole(t, "2;;;\r\nab\r\n0;;;\r\nA: b\r\n\r\n", "ab", "A", "b")
	whole(t, "2; \t\r\nab\r\n0;\t \r\n\r\n", "ab")
	whole(t, "2;3;4\r\nab\r\n0;1\r\n\r\n", "ab")
	wrong(t, api.ErrChunk, ";\r\n", ";x\r\n", ";3\r\n", " ;\r\n", "2 ;\r\nab\r\n", "2,x\r\nab\r\n", "2:x\r\nab\r\n", "2=x\r\nab\r\n")
}

// The data

func TestGreatestBodies(t *testing.T) {
	for _, sizes := range [][]int{
		{bodyCap}, {bodyCap - 1}, {bodyCap - 1, 1}, {1, bodyCap - 1}, {bodyCap / 2, bodyCap / 2}, {1, 2, bodyCap - 3}, slices.Repeat([]int{4096}, 16), slices.Repeat([]int{16}, 4096),
	} {
		all, sum := "", 0
		for _, size := range sizes {
			all += piece(size)
			sum += size
		}
		whole(t, all+"0\r\n\r\n", strings.Repeat("x", sum))
		whole(t, all+"0\r\nA: b\r\n\r\n", strings.Repeat("x", sum), "A", "b")
		// So much more is too much; it is told with the size line, whether the data have come or not.
		for _, over := range []int{1, 2, 100, bodyCap} {
			line := sizeText(bodyCap-sum+over, 1)
			wrong(t, api.ErrBody, all+line+"\r\n", all+line+";x\r\n", all+sizeText(bodyCap-sum+over, 8)+"\r\n", all+line+"\r\nx")
			more(t, all+line, all+line+"\r")
			wrong(t, api.ErrBody, all+piece(bodyCap-sum+over)+"0\r\n\r\n", all+line+"\r\n"+strings.Repeat("x", bodyCap-sum+over)+"yz")
		}
		for _, line := range []string{"ffffffff", "FFFFFFFF", "80000000", "7fffffff", "10001", "00010001"} {
			wrong(t, api.ErrBody, all+line+"\r\n", all+line+"\r\nabc")
		}
	}
	wrong(t, api.ErrBody, "10001\r\n", "1\r\nx\r\n10000\r\n", "ffff\r\n"+strings.Repeat("x", 0xffff)+"\r\n2\r\n")
	more(t, "10000\r\n", "1\r\nx\r\nffff\r\n", "10000\r\n"+strings.Repeat("x", bodyCap))
}

func TestBytesBehindTheData(t *testing.T) {
	for _, c := range everyByte() {
		for _, ahead := range []string{"", "2\r\nxy\r\n"} {
			// One byte alone says nothing yet, whichever it is.
			more(t, ahead+"1\r\n"+c, ahead+"3\r\nabc"+c, ahead+"3\r\n"+c+c+c, ahead+"3\r\n"+c+c)
			if c != "\r" {
				wrong(t, api.ErrChunk, ahead+"3\r\nabc"+c+"\n", ahead+"3\r\nabc"+c+"\r\n", ahead+"3\r\nabc"+c+"\r")
			}
			if c != "\n" {
				wrong(t, api.ErrChunk, ahead+"3\r\nabc\r"+c, ahead+"3\r\nabc\r"+c+"\n")
			}
			wrong(t, api.ErrChunk, ahead+"3\r\nabc"+c+c)
		}
	}
	wrong(t, api.ErrChunk, "3\r\nabcd\r\n", "3\r\nabcde", "3\r\nab\r\n0\r\n\r\n", "3\r\nabc\n\r", "3\r\nabc\n0\r\n\r\n", "3\r\nabc0\r\n\r\n", "1\r\n\r\n0\r\n\r\n", "3\r\nabc \r\n")
	more(t, "3\r\n", "3\r\na", "3\r\nab", "3\r\nabc", "3\r\nabc\r", "3\r\nabc\n", "3\r\nabcd", "3\r\nabc\r\n")
}

// The trailers

func TestSizesOfNought(t *testing.T) {
	for digits := 1; digits <= 8; digits++ {
		nought := strings.Repeat("0", digits)
		whole(t, nought+"\r\n\r\n", "")
		whole(t, "1\r\na\r\n"+nought+"\r\n\r\n", "a")
		whole(t, nought+";0\r\nA: b\r\n\r\n", "", "A", "b")
	}
	wrong(t, api.ErrChunk, "000000000\r\n\r\n")
}

func TestTrailers(t *testing.T) {
	whole(t, "0\r\nA: b\r\n\r\n", "", "A", "b")
	whole(t, "0\r\nA:b\r\nA: b\r\na:\tb \r\n\r\n", "", "A", "b", "A", "b", "a", "b")
	whole(t, "1\r\nx\r\n0\r\nA:\r\n\r\n", "x", "A", "")
	whole(t, "0\r\nA: \xff\tb\r\n\r\n", "", "A", "\xff\tb")
	whole(t, "0\r\nContent-Length: 5\r\nTransfer-Encoding: chunked\r\nHost: a\r\n\r\n", "", "Content-Length", "5", "Transfer-Encoding", "chunked", "Host", "a")
	for n := 1; n <= 100; n += 33 {
		wantDecode(t, "0\r\n"+strings.Repeat("a: b\r\n", n)+"\r\n", "", slices.Repeat(pairs("a", "b"), n), 6*n+5, api.OK)
	}
}

func TestTrailersThatAreRefused(t *testing.T) {
	for _, ahead := range []string{"0\r\n", "1\r\nx\r\n0\r\n", "00;x\r\n"} {
		wrong(t, api.ErrField, ahead+"a\r\n\r\n", ahead+": b\r\n\r\n", ahead+"a : b\r\n\r\n", ahead+"a: \x00\r\n\r\n", ahead+"a: b\rc\r\n\r\n", ahead+"a: b\nc: d\r\n\r\n", ahead+"a: b\r\n\n\r\n\r\n", ahead+"a: b\r\nc\r\n\r\n", ahead+"\n\r\n\r\n", ahead+"\r\r\n\r\n", ahead+"\ra: b\r\n\r\n", ahead+"\na: b\r\n\r\n")
		wrong(t, api.ErrFold, ahead+" a: b\r\n\r\n", ahead+"\ta: b\r\n\r\n", ahead+"a: b\r\n c\r\n\r\n", ahead+" \r\n\r\n")
		wrong(t, api.ErrMany, ahead+strings.Repeat("a: b\r\n", 101)+"\r\n", ahead+strings.Repeat("a: b\r\n", 1000)+"\r\n")
		// Nothing of it is told before the end has come.
		more(t, ahead+"a\r\n", ahead+"a\r\n\r", ahead+" a: b\r\n", ahead+"\n", ahead+"\n\n", ahead+"\r", ahead+"\r\r\n", ahead+"a\n\n", ahead+"a\r\r", ahead+"a\n\r\n", ahead+"a\r\n\n", ahead+strings.Repeat("a: b\r\n", 101), ahead+"\x00")
	}
}

func TestTrailersWithoutAnEnd(t *testing.T) {
	for _, ahead := range []string{"0\r\n", "0;" + strings.Repeat("x", 196) + "\r\n", "3\r\nabc\r\n00000000\r\n", piece(bodyCap) + "0\r\n"} {
		for _, s := range []string{"<>", "A: b<>", "A: b\r\n<>", "a<>\r\n", "a<>\r\n\r", "\r<>", "<>\n\n", " <>"} {
			for _, filling := range []string{"a", "\r", "\n", "\xff"} {
				if strings.HasPrefix(s, "\r") && filling == "\n" {
					continue // These are no trailers at all.
				}
				for _, n := range []int{20, 1000, headCap - 2, headCap - 1} {
					more(t, ahead+filled(s, filling, n))
				}
				for _, n := range []int{headCap, headCap + 1, headCap + 2, 2 * headCap, 100000} {
					wrong(t, api.ErrHead, ahead+filled(s, filling, n))
				}
			}
		}
	}
}

func TestLongestTrailers(t *testing.T) {
	for _, ahead := range []string{"0\r\n", "0;" + strings.Repeat("x", 196) + "\r\n", "3\r\nabc\r\n00000000\r\n"} {
		data := ""
		if ahead[0] == '3' {
			data = "abc"
		}
		for _, n := range []int{headCap - 1, headCap} {
			value := strings.Repeat("v", n-len("A: b\r\nC: \r\n\r\n"))
			whole(t, ahead+"A: b\r\nC: "+value+"\r\n\r\n", data, "A", "b", "C", value)
			name := strings.Repeat("n", n-len(":\r\n\r\n"))
			whole(t, ahead+name+":\r\n\r\n", data, name, "")
		}
		for _, n := range []int{headCap + 1, headCap + 2, headCap + 3, headCap + 4, headCap + 5, 2 * headCap, 100000} {
			wrong(t, api.ErrHead, ahead+filled("A: <>\r\n\r\n", "v", n))
			// It is told ahead of all that is wrong with the fields.
			wrong(t, api.ErrHead, ahead+filled("<>\r\n\r\n", "v", n), ahead+filled(" <>\r\n\r\n", "v", n), ahead+strings.Repeat("a: b\r\n", 101)+filled("A: <>\r\n\r\n", "v", n))
		}
		for _, n := range []int{headCap - 1, headCap} {
			wrong(t, api.ErrField, ahead+filled("<>\r\n\r\n", "v", n))
			wrong(t, api.ErrFold, ahead+filled(" <>\r\n\r\n", "v", n))
			wrong(t, api.ErrMany, ahead+strings.Repeat("a: b\r\n", 101)+filled("A: <>\r\n\r\n", "v", n-6*101))
		}
	}
}

// Which error is told where there are several: the first one from the beginning on.
func TestWhichErrorOfDecode(t *testing.T) {
	wrong(t, api.ErrChunk, "g\r\n"+"10001\r\n", "3\r\nabcd\r\n10001\r\n", "3\nabc\r\n0\r\na\r\n\r\n", "fffffffff\r\n", "10001;\x00\r\n", "10001\n", "10001 \r\n")
	wrong(t, api.ErrBody, "10001\r\ng\r\n", "10001\r\n"+strings.Repeat("x", 0x10001)+"yz", "1\r\nx\r\n10000\r\n0\r\n a\r\n\r\n")
	wrong(t, api.ErrChunk, "1\r\naxx10001\r\n", "1\r\naxx0\r\n"+strings.Repeat("a", headCap))
	wrong(t, api.ErrFold, "0\r\n a\r\nb\r\n\r\n", "0\r\n a\r\n\r\ng\r\n")
	wrong(t, api.ErrField, "0\r\na\r\n b\r\n\r\n")
	wrong(t, api.ErrHead, "0\r\n"+strings.Repeat("a", headCap)+"\r\n\r\n", "0\r\n "+strings.Repeat("a", headCap)+"\r\n\r\n")
}

// The oracle: the chapter's steps by patterns.

var (
	sizePattern  = regexp.MustCompile("^([0-9a-fA-F]{1,8})(;[^\\x00-\\x08\\x0a-\\x1f\\x7f]*)?\r\n$")
	blockPattern = regexp.MustCompile("(?s)^(\r\n|.*?\r\n\r\n)")
)

func oracle(s string) (string, []api.Field, int, api.Errno) {
	data, rest := "", s
	for {
		line, behind, found := strings.Cut(rest, "\n")
		if !found && len(rest) < lineCap {
			return "", nil, 0, api.OK
		}
		match := sizePattern.FindStringSubmatch(line + "\n")
		if !found || len(line) >= lineCap || match == nil {
			return "", nil, 0, api.ErrChunk
		}
		size, _ := strconv.ParseInt(match[1], 16, 64)
		if size == 0 {
			return oracleTrailers(data, behind, len(s))
		}
		if int64(len(data))+size > bodyCap {
			return "", nil, 0, api.ErrBody
		}
		if int64(len(behind)) < size+2 {
			return "", nil, 0, api.OK
		}
		if behind[size:size+2] != "\r\n" {
			return "", nil, 0, api.ErrChunk
		}
		data += behind[:size]
		rest = behind[size+2:]
	}
}

// oracleTrailers: what is answered when the last size line was read, behind which stands the rest of so many bytes in all.
func oracleTrailers(data, rest string, all int) (string, []api.Field, int, api.Errno) {
	block := blockPattern.FindString(rest)
	if block == "" && len(rest) < headCap {
		return "", nil, 0, api.OK
	}
	if block == "" || len(block) > headCap {
		return "", nil, 0, api.ErrHead
	}
	list, e := fields.Parse([]byte(block[:len(block)-2]))
	if e != api.OK {
		return "", nil, 0, e
	}
	return data, list, all - len(rest) + len(block), api.OK
}

func wantAsOracle(t *testing.T, s string) {
	t.Helper()
	data, list, n, e := oracle(s)
	wantDecode(t, s, data, list, n, e)
}

func TestAllShortTexts(t *testing.T) {
	for _, s := range everyText(6, "0", "2", "\r\n", "\r", "\n", ";", "a: b", " ") {
		wantAsOracle(t, s)
	}
	for _, s := range everyText(7, "0\r\n", "2\r\n", "ab", "\r\n", "A:") {
		wantAsOracle(t, s)
		wantAsOracle(t, s+"\r\n\r\n")
	}
}

// A whole body with each byte of it changed, left out, and put in.
func TestBodiesNearSoundOnes(t *testing.T) {
	for _, s := range []string{"3;x=y\r\nabc\r\n0a\r\n0123456789\r\n0\r\nA: b\r\nC: d\r\n\r\nrest", "1\r\n\r\r\n00\r\n\r\n\r\n", "2\r\n\r\n\r\n0;\r\na:\r\n\r\n"} {
		for i := range len(s) {
			wantAsOracle(t, s[:i])
			wantAsOracle(t, s[i:])
			wantAsOracle(t, s[:i]+s[i+1:])
			for _, c := range everyByte() {
				wantAsOracle(t, s[:i]+c+s[i+1:])
				wantAsOracle(t, s[:i]+c+s[i:])
			}
		}
	}
}

// Once a body or an error is told, what comes later changes nothing of it (P4).
func TestWhatIsToldStays(t *testing.T) {
	behind := []string{"\n", "\r\n", "x", "0", "0\r\n\r\n", strings.Repeat("a", headCap)}
	for _, s := range everyText(5, "0", "2", "\r\n", "\n", ";", "a:") {
		data, list, n, e := chunk.Decode([]byte(s))
		if n == 0 && e == api.OK {
			continue
		}
		for _, later := range behind {
			wantDecode(t, s+later, string(data), list, n, e)
		}
		if n > 0 {
			wantDecode(t, s[:n], string(data), list, n, e)
			more(t, s[:n-1])
		}
	}
}

func FuzzDecode(f *testing.F) {
	for _, s := range []string{"", "3\r\nabc\r\n0\r\n\r\nx", "3;x=y\r\nabc\r\n0\r\nA: b\r\n\r\n", "10001\r\n", "0\r\n a\r\n\r\n", "00a\r\n0123456789\r\n0;\r\n\r\n"} {
		f.Add([]byte(s), 3)
	}
	f.Fuzz(func(t *testing.T, b []byte, size int) {
		wantAsOracle(t, string(b))
		data, list, n, _ := chunk.Decode(b)
		if n > 0 {
			readAgain(t, string(data), 1+abs(size)%bodyCap, list)
		}
		if coded, e := chunk.Encode(b, 1+abs(size)%bodyCap, nil); e == api.OK {
			wantDecode(t, string(coded)+string(b), string(b), nil, len(coded), api.OK)
		}
	})
}

func abs(n int) int {
	if n < 0 {
		return -(n + 1)
	}
	return n
}

// P7.2: Encode

// coded: data in chunks as the chapter says it.
func coded(data string, size int, lines string) string {
	var s strings.Builder
	for at := 0; at < len(data); at += size {
		part := data[at:min(at+size, len(data))]
		s.WriteString(strconv.FormatInt(int64(len(part)), 16) + "\r\n" + part + "\r\n")
	}
	return s.String() + "0\r\n" + lines + "\r\n"
}

func TestEncodeExamples(t *testing.T) {
	wantEncode(t, "abcd", 3, nil, "3\r\nabc\r\n1\r\nd\r\n0\r\n\r\n", api.OK)
	wantEncode(t, "abcd", 3, pairs("A", "b"), "3\r\nabc\r\n1\r\nd\r\n0\r\nA: b\r\n\r\n", api.OK)
	wantEncode(t, "abcd", 4, pairs("A", "b", "c", ""), "4\r\nabcd\r\n0\r\nA: b\r\nc: \r\n\r\n", api.OK)
	wantEncode(t, "abcd", 2, nil, "2\r\nab\r\n2\r\ncd\r\n0\r\n\r\n", api.OK)
	wantEncode(t, "abcd", 1, nil, "1\r\na\r\n1\r\nb\r\n1\r\nc\r\n1\r\nd\r\n0\r\n\r\n", api.OK)
	wantEncode(t, "abcd", bodyCap, nil, "4\r\nabcd\r\n0\r\n\r\n", api.OK)
	wantEncode(t, strings.Repeat("z", 171), 171, nil, "ab\r\n"+strings.Repeat("z", 171)+"\r\n0\r\n\r\n", api.OK)
	wantEncode(t, strings.Repeat("z", 300), 255, nil, "ff\r\n"+strings.Repeat("z", 255)+"\r\n2d\r\n"+strings.Repeat("z", 45)+"\r\n0\r\n\r\n", api.OK)
	wantEncode(t, strings.Repeat("z", bodyCap), bodyCap, nil, "10000\r\n"+strings.Repeat("z", bodyCap)+"\r\n0\r\n\r\n", api.OK)
	wantEncode(t, "\r\n\x00\xff", 4, nil, "4\r\n\r\n\x00\xff\r\n0\r\n\r\n", api.OK)
}

func TestEncodeOfNoData(t *testing.T) {
	for _, data := range [][]byte{nil, {}, []byte("abc")[:0]} {
		for _, size := range []int{1, 2, bodyCap} {
			for _, list := range [][]api.Field{nil, {}} {
				if b, e := chunk.Encode(data, size, list); string(b) != "0\r\n\r\n" || e != api.OK {
					t.Errorf("no data, size %d: %q, %d", size, b, e)
				}
			}
			wantEncode(t, "", size, pairs("a", "b"), "0\r\na: b\r\n\r\n", api.OK)
		}
	}
}

func TestSizesOfEncode(t *testing.T) {
	for _, size := range []int{1, 2, 3, 1000, bodyCap - 1, bodyCap} {
		wantEncode(t, "abc", size, nil, coded("abc", size, ""), api.OK)
	}
	for _, size := range []int{0, -1, -3, -bodyCap, bodyCap + 1, bodyCap + 2, 2 * bodyCap, 1 << 32, 1<<32 + 1, -1 << 32, 1<<32 - 1, math.MaxInt64, math.MinInt64, math.MinInt64 + 1} {
		wantEncode(t, "abc", size, nil, "", api.ErrChunk)
		wantEncode(t, "", size, nil, "", api.ErrChunk)
		// It is told ahead of all else.
		wantEncode(t, strings.Repeat("x", bodyCap+1), size, nil, "", api.ErrChunk)
		wantEncode(t, "abc", size, pairs("", ""), "", api.ErrChunk)
		wantEncode(t, "abc", size, pairs("a", strings.Repeat("b", headCap)), "", api.ErrChunk)
	}
}

func TestEncodeOfEachLength(t *testing.T) {
	all := strings.Repeat("0123456789abcdefghi", 20)
	for n := range len(all) {
		for _, size := range []int{1, 2, 3, 9, 10, 15, 16, 17, 100, 255, 256, 257, max(1, n-1), max(1, n), n + 1, bodyCap} {
			wantEncode(t, all[:n], size, nil, coded(all[:n], size, ""), api.OK)
		}
	}
}

func TestLongestDataOfEncode(t *testing.T) {
	for _, size := range []int{1, 2, 15, 16, 17, 255, 256, 257, 4095, 4096, 4097, 32767, 32768, 32769, bodyCap - 1, bodyCap} {
		for _, n := range []int{bodyCap - 1, bodyCap} {
			data := strings.Repeat("x", n)
			wantEncode(t, data, size, nil, coded(data, size, ""), api.OK)
		}
		for _, n := range []int{bodyCap + 1, bodyCap + 2, 2 * bodyCap, 1 << 20} {
			wantEncode(t, strings.Repeat("x", n), size, nil, "", api.ErrBody)
			// It is told ahead of what is wrong with the trailers.
			wantEncode(t, strings.Repeat("x", n), size, pairs("", ""), "", api.ErrBody)
			wantEncode(t, strings.Repeat("x", n), size, slices.Repeat(pairs("a", "b"), 101), "", api.ErrBody)
			wantEncode(t, strings.Repeat("x", n), size, pairs("a", strings.Repeat("b", headCap)), "", api.ErrBody)
		}
	}
	for _, n := range []int{4096, 8192, 61440} {
		for over := range 2 {
			data := strings.Repeat("x", n+over)
			wantEncode(t, data, 4096, nil, coded(data, 4096, ""), api.OK)
		}
	}
}

func TestTrailersOfEncodeThatAreRefused(t *testing.T) {
	long := strings.Repeat("b", headCap)
	for _, list := range [][]api.Field{
		pairs("", ""), pairs("a ", "b"), pairs("a:", "b"), pairs("a", " b"), pairs("a", "b "), pairs("a", "b\r\nc: d"), pairs("a", "\x00"), pairs("a", "b", "", "c"),
		pairs("a", long, "", ""), pairs("a", long+" "), slices.Concat(slices.Repeat(pairs("a", "b"), 200), pairs("", "")),
	} {
		for _, data := range []string{"", "abc", strings.Repeat("x", bodyCap)} {
			wantEncode(t, data, 3, list, "", api.ErrField)
		}
	}
	wantEncode(t, "abc", 3, slices.Repeat(pairs("a", "b"), 100), coded("abc", 3, strings.Repeat("a: b\r\n", 100)), api.OK)
	for _, n := range []int{101, 102, 1000} {
		wantEncode(t, "abc", 3, slices.Repeat(pairs("a", "b"), n), "", api.ErrMany)
		wantEncode(t, "abc", 3, slices.Repeat(pairs("a", strings.Repeat("b", 100)), n), "", api.ErrMany)
	}
}

func TestLongestTrailersOfEncode(t *testing.T) {
	for _, n := range []int{headCap - 3, headCap - 2} {
		value := strings.Repeat("v", n-len("A: b\r\nC: \r\n"))
		for _, data := range []string{"", "abcd", strings.Repeat("x", bodyCap)} {
			wantEncode(t, data, 3, pairs("A", "b", "C", value), coded(data, 3, "A: b\r\nC: "+value+"\r\n"), api.OK)
		}
		name := strings.Repeat("n", n-len(": \r\n"))
		wantEncode(t, "abcd", 3, pairs(name, ""), coded("abcd", 3, name+": \r\n"), api.OK)
	}
	for _, n := range []int{headCap - 1, headCap, headCap + 1, 2 * headCap, 100000} {
		value := strings.Repeat("v", n-len("A: b\r\nC: \r\n"))
		for _, data := range []string{"", "abcd", strings.Repeat("x", bodyCap)} {
			wantEncode(t, data, 3, pairs("A", "b", "C", value), "", api.ErrHead)
		}
		wantEncode(t, "abcd", 3, pairs(strings.Repeat("n", n-len(": \r\n")), ""), "", api.ErrHead)
	}
}

// What is coded is decoded as it was.

// readAgain: the data and the trailers, coded, are read as they were, whatever stands behind them.
func readAgain(t *testing.T, data string, size int, list []api.Field) {
	t.Helper()
	b, e := chunk.Encode([]byte(data), size, list)
	if e != api.OK {
		// What Parse read may be longer when Print has written it with a blank behind each colon.
		if e != api.ErrHead {
			t.Errorf("Encode(%s, %d, %d fields): %d", short(data), size, len(list), e)
		}
		return
	}
	for _, behind := range []string{"", "\r\n", "x", "0\r\n\r\n", string(b)} {
		wantDecode(t, string(b)+behind, data, list, len(b), api.OK)
	}
	more(t, string(b[:len(b)-1]), string(b[:len(b)/2]))
}

func TestCodedIsDecodedAsItWas(t *testing.T) {
	lists := [][]api.Field{nil, pairs("A", "b"), pairs("a", "", "A", "x \t y", "b", "\xff,\t\"c"), slices.Repeat(pairs("a", "b"), 100), pairs("a", strings.Repeat("v", headCap-7))}
	var all []byte
	for c := range 600 {
		all = append(all, byte(c))
	}
	for n := 0; n < len(all); n += 1 + n/8 {
		for size := 1; size <= n+1; size += 1 + size/8 {
			for _, list := range lists {
				readAgain(t, string(all[:n]), size, list)
			}
		}
	}
	greatest := strings.Repeat(string(all[:256]), 256)
	for _, size := range []int{1, 7, 4096, bodyCap - 1, bodyCap} {
		for _, list := range lists {
			readAgain(t, greatest, size, list)
			readAgain(t, greatest[1:], size, list)
		}
	}
	for _, s := range everyText(4, "0", "\r\n", "\r", "\n", "1\r\n", "a: b") {
		for size := range len(s) + 1 {
			readAgain(t, s, size+1, lists[1])
		}
	}
}

// P7.3, rule 5

// withRoom: a copy of list in memory that goes on behind its length, and the whole memory.
func withRoom[T any](list []T, filling T) ([]T, []T) {
	all := slices.Concat(list, slices.Repeat([]T{filling}, 8))
	return all[:len(list)], all
}

// overwrite: fills the list and its spare room.
func overwrite[T any](list []T, with T) {
	list = list[:cap(list)]
	for i := range list {
		list[i] = with
	}
}

func someBodies() []string {
	return []string{
		"", "3", "3\r", "3\r\n", "3\r\nab", "3\r\nabc", "3\r\nabc\r", "3\r\nabc\r\n", "3\r\nabc\r\n0\r\n", "3\r\nabc\r\n0\r\n\r", "3\r\nabc\r\n0\r\n\r\n", "3\r\nabc\r\n0\r\n\r\nx", "0\r\n", "0\r\n\r", "0\r\n\r\n",
		"0\r\nA: b\r\n", "0\r\nA: b\r\n\r", "0\r\nA: b\r\n\r\n", "1\r\na\r\n1\r\nb\r\n0\r\nA: b\r\nC: d\r\n\r\nmore", "g\r\n", "\n", "10001\r\n", "0\r\n a\r\n\r\n", "0\r\na\r\n\r\n", "3\r\nabcd\r\n",
		strings.Repeat("0", lineCap-1), strings.Repeat("0", lineCap), "0\r\n" + strings.Repeat("a", headCap-1), "0\r\n" + strings.Repeat("a", headCap), piece(bodyCap), piece(bodyCap) + "0\r\n\r\n",
	}
}

// The bytes behind the length are no part of the body, and none of the memory changes.
func TestTheBytesStayAsTheyWere(t *testing.T) {
	for _, s := range someBodies() {
		for _, filling := range []byte("\n\r0a\x00") {
			b, memory := withRoom([]byte(s), filling)
			before := slices.Clone(memory)
			data, list, n, e := chunk.Decode(b)
			if want, fields, length, errno := oracle(s); string(data) != want || !slices.Equal(list, fields) || n != length || e != errno {
				t.Errorf("Decode(%s) = %s, %q, %d, %d with %q behind it", short(s), short(string(data)), list, n, e, filling)
			}
			for _, size := range []int{0, 1, 3, len(s), bodyCap} {
				got, e := chunk.Encode(b, size, nil)
				if e == api.OK && string(got) != coded(s, size, "") {
					t.Errorf("Encode(%s, %d) = %s with %q behind it", short(s), size, short(string(got)), filling)
				}
			}
			if !bytes.Equal(memory, before) {
				t.Errorf("%s changed", short(s))
			}
		}
	}
}

func TestTheTrailersStayAsTheyWere(t *testing.T) {
	for _, as := range [][]api.Field{
		nil, pairs("Host", "A"), pairs("A", "b", "c", ""), pairs("A", " b"), pairs("", ""), pairs("a", strings.Repeat("b", headCap)), slices.Repeat(pairs("A", "B"), 100), slices.Repeat(pairs("A", "B"), 101),
	} {
		list, memory := withRoom(as, api.Field{Name: "Behind", Value: "It"})
		before := slices.Clone(memory)
		for _, size := range []int{-1, 0, 1, 3, bodyCap, bodyCap + 1} {
			chunk.Encode([]byte("abcd"), size, list)
			chunk.Encode(make([]byte, bodyCap+1), size, list)
		}
		if !slices.Equal(memory, before) {
			t.Errorf("%q became %q", before, memory)
		}
	}
}

func within(part, all string) bool {
	if part == "" || all == "" {
		return false
	}
	p, w := uintptr(unsafe.Pointer(unsafe.StringData(part))), uintptr(unsafe.Pointer(unsafe.StringData(all)))
	return p < w+uintptr(len(all)) && w < p+uintptr(len(part))
}

// memoryOf: the bytes of the list and its spare room as a text that lies where they lie.
func memoryOf(b []byte) string {
	return unsafe.String(unsafe.SliceData(b), cap(b))
}

// apart: no two of the texts lie in the same memory.
func apart(t *testing.T, texts ...string) {
	t.Helper()
	for i, one := range texts {
		for _, other := range texts[:i] {
			if within(one, other) {
				t.Errorf("%s and %s lie in the same memory", short(one), short(other))
			}
		}
	}
}

func TestDecodedSharesNothingWithTheBytes(t *testing.T) {
	for _, s := range []string{"4\r\nabcd\r\n0\r\nName: value\r\n\r\n", "4\r\nabcd\r\n3\r\nefg\r\n0\r\nName: value\r\n\r\nbehind", "4\r\nabcd\r\n0\r\n\r\n", "0\r\nName: value\r\n\r\n"} {
		b := []byte(s)
		data, list, _, _ := chunk.Decode(b)
		want, fields, _, _ := oracle(s)
		for _, field := range list {
			apart(t, memoryOf(b), memoryOf(data), field.Name)
			apart(t, memoryOf(b), memoryOf(data), field.Value)
		}
		apart(t, memoryOf(b), memoryOf(data))
		overwrite(b, 'x')
		if string(data) != want || !slices.Equal(list, fields) {
			t.Errorf("%q: the answer changed with the bytes: %q, %q", s, data, list)
		}
		overwrite(data, 'y')
		if !slices.Equal(list, fields) {
			t.Errorf("%q: the trailers changed with the data: %q", s, list)
		}
	}
}

func TestCodedSharesNothingWithTheData(t *testing.T) {
	for _, s := range []string{"", "a", "abcd", strings.Repeat("x", 1000)} {
		data, memory := withRoom([]byte(s), 'z')
		before := slices.Clone(memory)
		list := pairs(strings.Clone("Name"), strings.Clone("value"))
		for _, size := range []int{1, 3, len(s) + 1, bodyCap} {
			b, _ := chunk.Encode(data, size, list)
			apart(t, memoryOf(b), memoryOf(data), list[0].Name)
			apart(t, memoryOf(b), memoryOf(data), list[0].Value)
			overwrite(b, 'x')
			if !bytes.Equal(memory, before) || !slices.Equal(list, pairs("Name", "value")) {
				t.Errorf("%s and %q changed with what was coded", short(s), list)
			}
			again, _ := chunk.Encode(data, size, list)
			overwrite(data[:len(s):len(s)], 'y')
			if string(again) != coded(s, size, "Name: value\r\n") {
				t.Errorf("what was coded changed with the data: %s", short(string(again)))
			}
			copy(data, s)
		}
	}
}

func TestTwoAnswersShareNothing(t *testing.T) {
	s := "4\r\nabcd\r\n3\r\nefg\r\n0\r\nName: value\r\nOther: one\r\n\r\n"
	one, oneList, _, _ := chunk.Decode([]byte(s))
	two, twoList, _, _ := chunk.Decode([]byte(s))
	overwrite(one, 'x')
	overwrite(oneList, api.Field{Name: "x", Value: "x"})
	if string(two) != "abcdefg" || !slices.Equal(twoList, pairs("Name", "value", "Other", "one")) {
		t.Errorf("%q, %q changed with another answer", two, twoList)
	}
	wantDecode(t, s, "abcdefg", pairs("Name", "value", "Other", "one"), len(s), api.OK)
	for _, data := range []string{"", "abcd"} {
		one, _ = chunk.Encode([]byte(data), 3, nil)
		two, _ = chunk.Encode([]byte(data), 3, nil)
		overwrite(one, 'x')
		if string(two) != coded(data, 3, "") {
			t.Errorf("%q changed with another answer", two)
		}
		wantEncode(t, data, 3, nil, coded(data, 3, ""), api.OK)
	}
}

// P1 and P2: no call panics, and each answers the same twice.
func TestCallsEndAndAnswerTheSameTwice(t *testing.T) {
	type answer struct {
		data, coded        []byte
		list               []api.Field
		length             int
		decodeErr, codeErr api.Errno
	}
	ask := func(s string, n int) answer {
		var a answer
		a.data, a.list, a.length, a.decodeErr = chunk.Decode([]byte(s))
		a.coded, a.codeErr = chunk.Encode([]byte(s), n, pairs("a", s))
		return a
	}
	texts := slices.Concat(everyText(4, "0", "1", "f", "\r\n", "\r", ";", "a:", "\xff", "\x00"), everyByte(), someBodies())
	for _, s := range texts {
		for _, n := range []int{0, 1, 3, -1, math.MaxInt64, math.MinInt64} {
			if one, two := ask(s, n), ask(s, n); !reflect.DeepEqual(one, two) {
				t.Fatalf("%s: %+v, then %+v", short(s), one, two)
			}
		}
	}
}
