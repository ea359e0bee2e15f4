package fields_test

import (
	"reflect"
	"regexp"
	"slices"
	"strconv"
	"strings"
	"testing"
	"unsafe"

	"conduit/api"
	"conduit/fields"
	"conduit/tok"
)

const tokenBytes = "ABCDEFGHIJKLMNOPQRSTUVWXYZabcdefghijklmnopqrstuvwxyz0123456789!#$%&'*+-.^_|~\x60"

// pairs: the fields of names and values by turns.
func pairs(texts ...string) []api.Field {
	var list []api.Field
	for i := 0; i < len(texts); i += 2 {
		list = append(list, api.Field{Name: texts[i], Value: texts[i+1]})
	}
	return list
}

func same[T any](a, b []T) bool {
	return len(a) == len(b) && (len(a) == 0 || reflect.DeepEqual(a, b))
}

func wantParse(t *testing.T, block string, want []api.Field, wantErrno api.Errno) {
	t.Helper()
	if got, errno := fields.Parse([]byte(block)); !same(got, want) || errno != wantErrno {
		t.Errorf("Parse(%q) = %q, %d; want %q, %d", block, got, errno, want, wantErrno)
	}
}

func wantWrong(t *testing.T, errno api.Errno, blocks ...string) {
	t.Helper()
	for _, block := range blocks {
		wantParse(t, block, nil, errno)
	}
}

func wantPrint(t *testing.T, list []api.Field, want string, wantErrno api.Errno) {
	t.Helper()
	if got, errno := fields.Print(list); string(got) != want || errno != wantErrno {
		t.Errorf("Print(%q) = %q, %d; want %q, %d", list, got, errno, want, wantErrno)
	}
}

// everyByte: the 256 texts of one byte.
func everyByte() []string {
	var all []string
	for c := range 256 {
		all = append(all, string([]byte{byte(c)}))
	}
	return all
}

// everyText: all texts of at most n parts out of an alphabet of parts.
func everyText(n int, alphabet ...string) []string {
	all := []string{""}
	for from := 0; n > 0; n-- {
		to := len(all)
		for _, s := range all[from:to] {
			for _, part := range alphabet {
				all = append(all, s+part)
			}
		}
		from = to
	}
	return all
}

func isText(s string) bool {
	return s == "\t" || s >= " " && s != "\x7f"
}

func isBlank(s string) bool {
	return s == " " || s == "\t"
}

// P4.1: Parse

func TestParse(t *testing.T) {
	for block, want := range map[string][]api.Field{
		"":                             nil,
		"A: b\r\nc:\t d \r\n":          pairs("A", "b", "c", "d"),
		"a:\r\n":                       pairs("a", ""),
		"a: \t \r\n":                   pairs("a", ""),
		"a:b\r\n":                      pairs("a", "b"),
		"a:b c\td\r\n":                 pairs("a", "b c\td"),
		"a:\t b  c \t\r\n":             pairs("a", "b  c"),
		"a::\r\n":                      pairs("a", ":"),
		"a: b:c :d:\r\n":               pairs("a", "b:c :d:"),
		"Host: a.org:8080\r\n":         pairs("Host", "a.org:8080"),
		"a: \"b, c\" , \\\r\n":         pairs("a", "\"b, c\" , \\"),
		"a: \x80\xff\xc3\xa4\r\n":      pairs("a", "\x80\xff\xc3\xa4"),
		"a: \xa0b\x85\r\n":             pairs("a", "\xa0b\x85"),
		"a:1\r\nA:2\r\na:1\r\n":        pairs("a", "1", "A", "2", "a", "1"),
		"X-Y: 1\r\nx-y:\r\nb: \r\n":    pairs("X-Y", "1", "x-y", "", "b", ""),
		tokenBytes + ":" + "v\r\n":     pairs(tokenBytes, "v"),
		"a:b\r\nc:d\r\ne:f\r\ng:h\r\n": pairs("a", "b", "c", "d", "e", "f", "g", "h"),
	} {
		wantParse(t, block, want, api.OK)
	}
	wantParse(t, "a: "+strings.Repeat("v", 100000)+"\r\n", pairs("a", strings.Repeat("v", 100000)), api.OK)
	wantParse(t, strings.Repeat("n", 100000)+":\r\n", pairs(strings.Repeat("n", 100000), ""), api.OK)
}

func TestParseOfNoBlock(t *testing.T) {
	for _, block := range [][]byte{nil, {}, []byte("a:b\r\n")[:0]} {
		if list, errno := fields.Parse(block); len(list) != 0 || errno != api.OK {
			t.Errorf("Parse(%q) = %q, %d", block, list, errno)
		}
	}
}

func TestParseOfLinesWithoutAnEnd(t *testing.T) {
	wantWrong(t, api.ErrField,
		"a", "a:", "a: b", "a: b\r", "a: b\n", "\r", "\n", " ", "\t", ":", " a: b", "\ta", " \r", " \n",
		"a: b\r\nc", "a: b\r\nc: d", "a: b\r\nc: d\r", "a: b\r\nc: d\n", "a: b\r\n\r", "a: b\r\n\n", "a: b\r\n d",
		"a: b\n\r", "a: b\nc: d\n", "a: b\rc: d\r",
	)
}

// A 13 or a 10 without the other at each place of a line is told ahead of all else that is wrong with it.
func TestParseOfHalfAnEndAtEachPlace(t *testing.T) {
	for _, line := range []string{"a: b c", " a: b", "\t", "", "ab", ":b", "a : b", "a: \x00b", "ä:"} {
		for _, ahead := range []string{"", "x: y\r\n", strings.Repeat("x:\r\n", 100)} {
			for _, behind := range []string{"\r\n", "\r\nx: y\r\n", "\r\n x\r\n", ""} {
				for i := range len(line) + 1 {
					for _, half := range []string{"\r", "\n", "\r\r", "\n\n", "\n\r"} {
						wantWrong(t, api.ErrField, ahead+line[:i]+half+line[i:]+behind)
					}
				}
			}
		}
	}
}

func TestParseOfFoldedLines(t *testing.T) {
	wantWrong(t, api.ErrFold,
		" a: b\r\n", "\ta: b\r\n", " \r\n", "\t\r\n", "  \t\r\n", " a\r\n", " :\r\n", "\t:b\r\n", " a : b\r\n", " \x00\r\n", " \xff\r\n",
		"a: b\r\n c: d\r\n", "a: b\r\n\tc\r\n", "a: b\r\n \r\n", "a:\r\n \r\nb: c\r\n",
	)
	// What is no blank begins no folded line.
	for _, s := range everyByte() {
		errno := api.ErrField
		if isBlank(s) {
			errno = api.ErrFold
		}
		if !strings.Contains(tokenBytes, s) {
			wantWrong(t, errno, s+"a: b\r\n", "x: y\r\n"+s+"a: b\r\n", s+"\r\n")
		}
	}
}

func TestParseOfLinesThatAreNoFields(t *testing.T) {
	wantWrong(t, api.ErrField,
		"\r\n", "\r\n\r\n", "a: b\r\n\r\n", "\r\na: b\r\n", "a: b\r\n\r\nc: d\r\n", // empty lines
		"a\r\n", "a b\r\n", "ab\r\nc: d\r\n", "a; b\r\n", "a=b\r\n", // no ":"
		":\r\n", ": b\r\n", ":b\r\n", "::\r\n", ":a:b\r\n", "a: b\r\n: c\r\n", // a ":" at the beginning
		"A : b\r\n", "a\t: b\r\n", "a b: c\r\n", "a  :\r\n", // blanks ahead of the ":"
		"\"a\": b\r\n", "a,b: c\r\n", "(a): b\r\n", "ä: b\r\n", "a\x00: b\r\n", "a\x7f: b\r\n", "\xff: b\r\n",
		"a: \x00\r\n", "a: b\x7f\r\n", "a: \x1f b\r\n", "a:\x0b\r\n", "a: \x0c b\r\n", "a: b\x00 \r\n",
	)
}

func TestParseOfEachByteOfAName(t *testing.T) {
	for _, s := range everyByte() {
		if s == ":" || s == "\r" || s == "\n" {
			continue
		}
		for _, name := range []string{s, "a" + s, "a" + s + "b"} {
			switch {
			case strings.Contains(tokenBytes, s):
				wantParse(t, name+": v\r\n", pairs(name, "v"), api.OK)
			case name == s && isBlank(s):
				wantWrong(t, api.ErrFold, name+": v\r\n")
			default:
				wantWrong(t, api.ErrField, name+": v\r\n")
			}
		}
	}
}

func TestParseOfEachByteOfAValue(t *testing.T) {
	for _, s := range everyByte() {
		for _, value := range []string{s, s + "v", "v" + s, "v" + s + "w", " \t" + s + "\t "} {
			if isText(s) {
				wantParse(t, "a:"+value+"\r\n", pairs("a", strings.Trim(value, " \t")), api.OK)
			} else {
				wantWrong(t, api.ErrField, "a:"+value+"\r\n")
			}
		}
	}
}

func TestParseOfManyFields(t *testing.T) {
	for n := range 101 {
		wantParse(t, strings.Repeat("a: b\r\n", n), slices.Repeat(pairs("a", "b"), n), api.OK)
	}
	hundred := strings.Repeat("a: b\r\n", 100)
	wantWrong(t, api.ErrMany, hundred+"a:\r\n", hundred+"a: b\r\na: b\r\n", hundred+hundred+hundred)
	// The 101st line's own faults are told first, those behind it aren't told any more.
	wantWrong(t, api.ErrField, hundred+"\r\n", hundred+"a\r\n", hundred+":\r\n", hundred+"a:", hundred+"a: b\r", hundred+"a:\x00\r\n", hundred+"a :\r\n")
	wantWrong(t, api.ErrFold, hundred+" x\r\n", hundred+"\ta: b\r\n")
	wantWrong(t, api.ErrMany, hundred+"a: b\r\n\r\n", hundred+"a: b\r\n x\r\n", hundred+"a: b\r\nx", hundred+"a: b\r\n\x00\r\n")
}

func TestParseTellsTheFirstLinesFault(t *testing.T) {
	faults := map[string]api.Errno{
		"\r\n": api.ErrField, "a\r\n": api.ErrField, ":\r\n": api.ErrField, "a :\r\n": api.ErrField, "a:\x01\r\n": api.ErrField,
		"a\r:\r\n": api.ErrField, "a:\n\r\n": api.ErrField, " a\rb\r\n": api.ErrField, "\t\n\r\n": api.ErrField,
		" a: b\r\n": api.ErrFold, "\ta\r\n": api.ErrFold, " \x00\r\n": api.ErrFold,
	}
	for first, errno := range faults {
		wantWrong(t, errno, first, "x: y\r\n"+first, strings.Repeat("x: y\r\n", 99)+first, first+strings.Repeat("x: y\r\n", 101))
		for second := range faults {
			wantWrong(t, errno, first+second, first+"x: y\r\n"+second, "x: y\r\n"+first+second)
		}
		wantWrong(t, errno, first+"no end", first+" no end", first+"\r", first+"\n")
	}
}

// An oracle for Parse, made of patterns; the bytes are taken as the runes of their numbers, for patterns go by runes.

var (
	wholeLine  = regexp.MustCompile(`^([^\r\n]*)\r\n`)
	foldedLine = regexp.MustCompile(`^[ \t]`)
	fieldLine  = regexp.MustCompile("^([-!#$%&'*+.^_|~\x600-9A-Za-z]+):[ \t]*((?:[!-~\u0080-\u00ff](?:[\t -~\u0080-\u00ff]*[!-~\u0080-\u00ff])?)?)[ \t]*$")
)

func bytesAsRunes(s string) string {
	var all []rune
	for i := range len(s) {
		all = append(all, rune(s[i]))
	}
	return string(all)
}

func runesAsBytes(s string) string {
	var all []byte
	for _, r := range s {
		all = append(all, byte(r))
	}
	return string(all)
}

func oracle(block string) ([]api.Field, api.Errno) {
	var list []api.Field
	for rest := bytesAsRunes(block); rest != ""; {
		line := wholeLine.FindStringSubmatch(rest)
		if line == nil {
			return nil, api.ErrField
		}
		if foldedLine.MatchString(line[1]) {
			return nil, api.ErrFold
		}
		parts := fieldLine.FindStringSubmatch(line[1])
		if parts == nil {
			return nil, api.ErrField
		}
		if len(list) == 100 {
			return nil, api.ErrMany
		}
		list = append(list, api.Field{Name: runesAsBytes(parts[1]), Value: runesAsBytes(parts[2])})
		rest = rest[len(line[0]):]
	}
	return list, api.OK
}

func wantAsOracle(t *testing.T, block string) {
	t.Helper()
	want, errno := oracle(block)
	wantParse(t, block, want, errno)
}

func TestParseOfAllShortBlocks(t *testing.T) {
	for _, s := range everyText(5, "a", ":", " ", "\t", "\r\n", "\r", "\n", "\x00", "\xff") {
		wantAsOracle(t, s)
		wantAsOracle(t, s+"\r\n")
	}
}

func TestParseOfAllShortLines(t *testing.T) {
	for _, s := range everyText(6, "A", ":", " ", "\t", "\"", "\xff") {
		wantAsOracle(t, s+"\r\n")
		wantAsOracle(t, "x: y\r\n"+s+"\r\nz:\r\n")
	}
}

func TestParseOfAllShortRowsOfLines(t *testing.T) {
	ninety := strings.Repeat("n:\r\n", 99)
	for _, s := range everyText(5, "a: b\r\n", "A:\r\n", " f\r\n", "\r\n", "x", ninety) {
		wantAsOracle(t, s)
	}
}

func FuzzParse(f *testing.F) {
	f.Add("A: b\r\nc:\t d \r\n")
	f.Add(" a: b\r\n")
	f.Add("a: b\rc\r\n\xff:")
	f.Fuzz(func(t *testing.T, s string) {
		wantAsOracle(t, s)
		wantAsOracle(t, s+"\r\n")
		wantAsOracle(t, "a: b\r\n"+s+"\r\n")
	})
}

// P4.2: Print

func TestPrint(t *testing.T) {
	for _, c := range []struct {
		list []api.Field
		want string
	}{
		{nil, ""},
		{[]api.Field{}, ""},
		{pairs("A", "b", "c", "d"), "A: b\r\nc: d\r\n"},
		{pairs("A", "b", "c", ""), "A: b\r\nc: \r\n"},
		{pairs("a", ""), "a: \r\n"},
		{pairs("a", "b c\td"), "a: b c\td\r\n"},
		{pairs("a", ":"), "a: :\r\n"},
		{pairs("a", "b: c"), "a: b: c\r\n"},
		{pairs("a", "\x80\xff"), "a: \x80\xff\r\n"},
		{pairs("a", "1", "A", "2", "a", "1"), "a: 1\r\nA: 2\r\na: 1\r\n"},
		{pairs(tokenBytes, "\"b, c\""), tokenBytes + ": \"b, c\"\r\n"},
		{pairs(strings.Repeat("n", 100000), strings.Repeat("v", 100000)), strings.Repeat("n", 100000) + ": " + strings.Repeat("v", 100000) + "\r\n"},
	} {
		wantPrint(t, c.list, c.want, api.OK)
	}
}

func TestPrintOfWhatIsNotGood(t *testing.T) {
	for _, field := range [][]api.Field{
		pairs("", ""), pairs("", "v"), pairs(" ", "v"), pairs(" a", "v"), pairs("a ", "v"), pairs("a\t", "v"), pairs("a b", "v"),
		pairs("a:", "v"), pairs(":", "v"), pairs("a\r\nb", "v"), pairs("ä", "v"), pairs("\xff", "v"), pairs("\x00", "v"), pairs("\"a\"", "v"),
		pairs("a", " "), pairs("a", "\t"), pairs("a", " v"), pairs("a", "v "), pairs("a", "\tv"), pairs("a", "v\t"), pairs("a", " v "),
		pairs("a", "\n"), pairs("a", "\r"), pairs("a", "v\r\nb: c"), pairs("a", "v\r\n"), pairs("a", "\x00"), pairs("a", "v\x1fw"), pairs("a", "v\x7f"),
		pairs("a ", "v "),
	} {
		wantPrint(t, field, "", api.ErrField)
		wantPrint(t, slices.Concat(field, pairs("a", "b")), "", api.ErrField)
		wantPrint(t, slices.Concat(pairs("a", "b"), field), "", api.ErrField)
		wantPrint(t, slices.Concat(pairs("a", "b"), field, pairs("c", "d")), "", api.ErrField)
	}
}

func TestPrintOfEachByte(t *testing.T) {
	for _, s := range everyByte() {
		for _, name := range []string{s, "a" + s, s + "a", "a" + s + "a"} {
			if strings.Contains(tokenBytes, s) {
				wantPrint(t, pairs(name, "v"), name+": v\r\n", api.OK)
			} else {
				wantPrint(t, pairs(name, "v"), "", api.ErrField)
			}
		}
		for _, value := range []string{s, "v" + s, s + "v", "v" + s + "w"} {
			if isText(s) && (!isBlank(s) || value == "v"+s+"w") {
				wantPrint(t, pairs("a", value), "a: "+value+"\r\n", api.OK)
			} else {
				wantPrint(t, pairs("a", value), "", api.ErrField)
			}
		}
	}
}

func TestPrintOfManyFields(t *testing.T) {
	good, bad := pairs("a", "b"), pairs("a", "b ")
	for n := range 101 {
		wantPrint(t, slices.Repeat(good, n), strings.Repeat("a: b\r\n", n), api.OK)
	}
	for _, n := range []int{101, 102, 200, 1000} {
		list := slices.Repeat(good, n)
		wantPrint(t, list, "", api.ErrMany)
		// One that isn't good is told first, wherever it stands.
		for _, at := range []int{0, 1, 99, 100, n - 1} {
			one := slices.Clone(list)
			one[at] = bad[0]
			wantPrint(t, one, "", api.ErrField)
		}
	}
	wantPrint(t, make([]api.Field, 101), "", api.ErrField)
}

func TestPrintIsReadAgain(t *testing.T) {
	names := everyText(2, "a", "B", "-", ":", " ", "\xff")
	values := everyText(3, "a", ":", " ", "\t", "\r", "\n", "\xff", "\x00")
	for _, name := range names {
		for _, value := range values {
			list := pairs("x", "y", name, value, "z", "")
			block, errno := fields.Print(list)
			read, readErrno := oracle("x: y\r\n" + name + ": " + value + "\r\nz: \r\n")
			good := readErrno == api.OK && same(read, list)
			if good != (errno == api.OK) {
				t.Fatalf("Print(%q): %d", list, errno)
			}
			if good {
				wantParse(t, string(block), list, api.OK)
			}
		}
	}
}

// P4.3: Values, Get, Tokens

func wantFound(t *testing.T, list []api.Field, name string, values []string, tokens []string) {
	t.Helper()
	if got := fields.Values(list, name); !same(got, values) {
		t.Errorf("Values(%q, %q) = %q; want %q", list, name, got, values)
	}
	joined := strings.Join(values, ", ")
	if got, found := fields.Get(list, name); got != joined || found != (len(values) > 0) {
		t.Errorf("Get(%q, %q) = %q, %t; want %q", list, name, got, found, joined)
	}
	if got := fields.Tokens(list, name); !same(got, tokens) {
		t.Errorf("Tokens(%q, %q) = %q; want %q", list, name, got, tokens)
	}
}

func TestValuesGetAndTokens(t *testing.T) {
	list := pairs("Connection", "Close, X", "b", "1", "connection", "y", "C", "", "CONNECTION", "\"A,b\" , ,Z")
	wantFound(t, list, "CONNECTION", []string{"Close, X", "y", "\"A,b\" , ,Z"}, []string{"close", "x", "y", "\"a,b\"", "z"})
	wantFound(t, list, "connection", []string{"Close, X", "y", "\"A,b\" , ,Z"}, []string{"close", "x", "y", "\"a,b\"", "z"})
	wantFound(t, list, "B", []string{"1"}, []string{"1"})
	wantFound(t, list, "c", []string{""}, nil)
	wantFound(t, list, "d", nil, nil)
	wantFound(t, list, "", nil, nil)
	wantFound(t, list, "connectio", nil, nil)
	wantFound(t, list, "connections", nil, nil)
	wantFound(t, list, " connection", nil, nil)
	wantFound(t, list, "connection ", nil, nil)
	wantFound(t, pairs("A", "b", "a", "c"), "A", []string{"b", "c"}, []string{"b", "c"})
	wantFound(t, pairs("a", "", "A", ""), "a", []string{"", ""}, nil)
	wantFound(t, pairs("a", "2", "a", "1", "a", "2"), "A", []string{"2", "1", "2"}, []string{"2", "1", "2"})
}

func TestFindingInNoList(t *testing.T) {
	for _, list := range [][]api.Field{nil, {}} {
		wantFound(t, list, "a", nil, nil)
		wantFound(t, list, "", nil, nil)
	}
}

func TestGetTellsAnEmptyValueFromNone(t *testing.T) {
	for _, c := range []struct {
		list  []api.Field
		want  string
		found bool
	}{
		{nil, "", false},
		{pairs("b", "c"), "", false},
		{pairs("a", ""), "", true},
		{pairs("a", "", "A", ""), ", ", true},
		{pairs("a", "", "b", "x", "a", "c", "a", ""), ", c, ", true},
		{pairs("A", "b", "a", "c"), "b, c", true},
		{pairs("a", "b,", "a", " c"), "b,,  c", true},
	} {
		if got, found := fields.Get(c.list, "a"); got != c.want || found != c.found {
			t.Errorf("Get(%q, a) = %q, %t", c.list, got, found)
		}
	}
}

func TestTokensCutsEachValueByItself(t *testing.T) {
	for _, c := range []struct {
		list []api.Field
		want []string
	}{
		{pairs("a", "\"B", "a", "C\",D"), []string{"\"b", "c\",d"}}, // a stretch that doesn't end
		{pairs("a", "\"B\\", "a", "\",D"), []string{"\"b\\", "\",d"}},
		{pairs("a", "b,", "a", ",c"), []string{"b", "c"}},
		{pairs("a", "\"B,C\",d"), []string{"\"b,c\"", "d"}},
		{pairs("a", " \t,,", "a", "", "a", " X Y "), []string{"x y"}},
		{pairs("a", "Q=\"\\\",R\";S , T"), []string{"q=\"\\\",r\";s", "t"}},
		{pairs("a", "\xc4,\x00Z\xff"), []string{"\xc4", "\x00z\xff"}},
	} {
		if got := fields.Tokens(c.list, "A"); !same(got, c.want) {
			t.Errorf("Tokens(%q, A) = %q; want %q", c.list, got, c.want)
		}
	}
}

// anyNames: names of which some are the same folded, and some are not though they look alike.
func anyNames() []string {
	return []string{"a", "A", "aB", "AB", "", " a", "a:", "K", "\u212a", "\xc4", "\xe4", "Ä", "ä", "@", "\x60", "[", "{", "\r\n", "\x00"}
}

func TestNamesAreFoldedByLettersAlone(t *testing.T) {
	names := anyNames()
	names = append(names, everyByte()...)
	for _, name := range names {
		for _, other := range names {
			var values []string
			var left []api.Field
			list := pairs(other, "v")
			if asFolded(name) == asFolded(other) {
				values = []string{"v"}
			} else {
				left = list
			}
			wantFound(t, list, name, values, values)
			if got := fields.Without(list, name); !same(got, left) {
				t.Errorf("Without(%q, %q) = %q", list, name, got)
			}
		}
	}
}

// asFolded: folding once more, by a replacing of letters.
func asFolded(s string) string {
	for _, letter := range strings.Split("ABCDEFGHIJKLMNOPQRSTUVWXYZ", "") {
		s = strings.ReplaceAll(s, letter, strings.ToLower(letter))
	}
	return s
}

// everyList: all lists of at most n fields of any names; each field's value tells its place.
func everyList(n int, names ...string) [][]api.Field {
	values := []string{"Zero, 0", "", "\" x,\\", "\r\n\x00,A\xff"}
	all := [][]api.Field{nil}
	for from := 0; n > 0; n-- {
		to := len(all)
		for _, list := range all[from:to] {
			for _, name := range names {
				all = append(all, slices.Concat(list, pairs(name, values[len(list)%len(values)])))
			}
		}
		from = to
	}
	return all
}

func TestFindingInAllShortLists(t *testing.T) {
	for _, list := range everyList(4, "a", "A", "aB", "", "\xc4", " a") {
		for _, name := range []string{"a", "A", "Ab", "", "\xc4", "\xe4", " A", "c"} {
			var values, tokens []string
			for _, field := range list {
				if asFolded(field.Name) == asFolded(name) {
					values = append(values, field.Value)
					for _, element := range tok.List(field.Value) {
						tokens = append(tokens, asFolded(element))
					}
				}
			}
			wantFound(t, list, name, values, tokens)
		}
	}
}

// P4.4: Without, Put

func TestWithout(t *testing.T) {
	list := pairs("A", "1", "b", "2", "a", "3", "", "4", "C", "5")
	for _, c := range []struct {
		names []string
		want  []api.Field
	}{
		{nil, list},
		{[]string{}, list},
		{[]string{"z"}, list},
		{[]string{" a", "a ", "aa"}, list},
		{[]string{"a"}, pairs("b", "2", "", "4", "C", "5")},
		{[]string{"A"}, pairs("b", "2", "", "4", "C", "5")},
		{[]string{"a", "A", "a"}, pairs("b", "2", "", "4", "C", "5")},
		{[]string{""}, pairs("A", "1", "b", "2", "a", "3", "C", "5")},
		{[]string{"c", "B"}, pairs("A", "1", "a", "3", "", "4")},
		{[]string{"z", "c", "a"}, pairs("b", "2", "", "4")},
		{[]string{"a", "b", "c", ""}, nil},
		{[]string{"a,b"}, list},
	} {
		if got := fields.Without(list, c.names...); !same(got, c.want) {
			t.Errorf("Without(%q, %q) = %q; want %q", list, c.names, got, c.want)
		}
	}
	if got := fields.Without(list); !same(got, list) {
		t.Errorf("Without(%q) = %q", list, got)
	}
	for _, none := range [][]api.Field{nil, {}} {
		if len(fields.Without(none)) != 0 || len(fields.Without(none, "a", "")) != 0 {
			t.Error("there is something in a list without anything")
		}
	}
}

func TestPut(t *testing.T) {
	for _, c := range []struct {
		list        []api.Field
		name, value string
		want        []api.Field
	}{
		{nil, "a", "b", pairs("a", "b")},
		{[]api.Field{}, "", "", pairs("", "")},
		{pairs("a", "1"), "b", "2", pairs("a", "1", "b", "2")},
		{pairs("a", "1"), "A", "2", pairs("A", "2")},
		{pairs("a", "1", "b", "2", "A", "3", "c", "4"), "a", "", pairs("b", "2", "c", "4", "a", "")},
		{pairs("a", "1"), "a", "1", pairs("a", "1")},
		{pairs("", "1", "a", "2"), "", "3", pairs("a", "2", "", "3")},
		{pairs("a\r\n", " 1", "\xff", "\x00"), "A\r\n", " \n", pairs("\xff", "\x00", "A\r\n", " \n")},
		{slices.Repeat(pairs("a", "1"), 200), "b", "2", append(slices.Repeat(pairs("a", "1"), 200), pairs("b", "2")...)},
		{slices.Repeat(pairs("a", "1"), 200), "A", "2", pairs("A", "2")},
	} {
		if got := fields.Put(c.list, c.name, c.value); !same(got, c.want) {
			t.Errorf("Put(%q, %q, %q) = %q; want %q", c.list, c.name, c.value, got, c.want)
		}
	}
}

func TestWithoutAndPutOfAllShortLists(t *testing.T) {
	names := []string{"a", "A", "aB", "", "\xc4", " a"}
	for _, list := range everyList(4, names...) {
		for _, one := range names {
			if got, want := fields.Put(list, one, " v\n"), append(otherFields(list, one), pairs(one, " v\n")...); !same(got, want) {
				t.Fatalf("Put(%q, %q) = %q; want %q", list, one, got, want)
			}
			for _, two := range names {
				if got, want := fields.Without(list, one, two), otherFields(list, one, two); !same(got, want) {
					t.Fatalf("Without(%q, %q, %q) = %q; want %q", list, one, two, got, want)
				}
			}
		}
	}
}

// otherFields: Without once more, by deleting for one name after the other.
func otherFields(list []api.Field, names ...string) []api.Field {
	left := slices.Clone(list)
	for _, name := range names {
		left = slices.DeleteFunc(left, func(f api.Field) bool { return asFolded(f.Name) == asFolded(name) })
	}
	return left
}

// A hundred thousand of each: a way through all names for each field would take minutes.
func TestLongListsOfFieldsAndNames(t *testing.T) {
	var list []api.Field
	var names []string
	for i := range 100000 {
		list = append(list, api.Field{Name: "Name" + strconv.Itoa(i), Value: "v"})
		names = append(names, "nAME"+strconv.Itoa(i))
	}
	if got := fields.Without(list, names...); len(got) != 0 {
		t.Errorf("%d fields are left, not 0", len(got))
	}
	if got := fields.Without(list, names[1:]...); !same(got, list[:1]) {
		t.Errorf("%d fields are left, not 1", len(got))
	}
	if got := fields.Put(list, names[0], "w"); len(got) != len(list) || got[0] != list[1] || got[len(got)-1] != (api.Field{Name: "nAME0", Value: "w"}) {
		t.Errorf("%d fields, not %d, or not in their order", len(got), len(list))
	}
}

// P4.5, rule 5

// withRoom: a copy of list in memory that goes on behind its length, and the whole memory.
func withRoom[T any](list []T, filling T) ([]T, []T) {
	whole := slices.Concat(list, slices.Repeat([]T{filling}, 8))
	return whole[:len(list)], whole
}

func TestWhatIsHandedInStaysAsItWas(t *testing.T) {
	lists := everyList(3, "a", "A", "bC", "", "\xc4")
	lists = append(lists, pairs("a", "b", "c", "d"), pairs("A", "b", "a", "c "), slices.Repeat(pairs("A", "B"), 100), slices.Repeat(pairs("A", "B"), 101))
	for _, as := range lists {
		list, memory := withRoom(as, api.Field{Name: "Behind", Value: "It"})
		before := slices.Clone(memory)
		for _, texts := range [][]string{nil, {"A"}, {"bC", "A", "A"}, {"Z", "", "\xc4"}} {
			names, namesMemory := withRoom(texts, "Behind")
			namesBefore := slices.Clone(namesMemory)
			fields.Without(list, names...)
			if !slices.Equal(namesMemory, namesBefore) {
				t.Fatalf("the names %q became %q", namesBefore, namesMemory)
			}
		}
		fields.Print(list)
		fields.Put(list, "A", "V")
		fields.Put(list, "z", "V")
		for _, name := range []string{"A", "a", "", "Z"} {
			fields.Values(list, name)
			fields.Get(list, name)
			fields.Tokens(list, name)
		}
		if !slices.Equal(memory, before) {
			t.Fatalf("%q became %q", before, memory)
		}
	}
}

func TestTheBlockStaysAsItWas(t *testing.T) {
	for _, s := range []string{
		"", "A: b\r\nc:\t d \r\n", "A : b\r\n", " a: b\r\n", "a: b", "a: b\r", "a\nb: c\r\n", "a: \x00\r\n", strings.Repeat("A: B\r\n", 100), strings.Repeat("A: B\r\n", 101),
	} {
		block, memory := withRoom([]byte(s), '\n')
		before := slices.Clone(memory)
		fields.Parse(block)
		if !slices.Equal(memory, before) {
			t.Errorf("%q became %q", before, memory)
		}
	}
}

func TestParseReadsNothingBehindTheBlock(t *testing.T) {
	for _, s := range []string{"a: b\r\n", "a: b\r", "a: b", "a", ""} {
		want, errno := oracle(s)
		for _, filling := range []string{"\n", "\r", " ", ":", "\x00"} {
			block, _ := withRoom([]byte(s), filling[0])
			if got, e := fields.Parse(block); !same(got, want) || e != errno {
				t.Errorf("Parse(%q) = %q, %d with %q behind it", block, got, e, filling)
			}
		}
	}
}

// apart: none of the answers lies in the memory of what was handed in.
func apart(t *testing.T, answers []string, handed ...string) {
	t.Helper()
	for _, answer := range answers {
		for _, whole := range handed {
			if within(answer, whole) {
				t.Errorf("%q lies in the memory of %q", answer, whole)
			}
		}
	}
}

func within(part, whole string) bool {
	if part == "" || whole == "" {
		return false
	}
	p, w := uintptr(unsafe.Pointer(unsafe.StringData(part))), uintptr(unsafe.Pointer(unsafe.StringData(whole)))
	return p >= w && p < w+uintptr(len(whole))
}

func allTexts(list []api.Field) []string {
	var texts []string
	for _, field := range list {
		texts = append(texts, field.Name, field.Value)
	}
	return texts
}

func TestAnswersAreNewMemory(t *testing.T) {
	name, value, other := strings.Clone("some-name"), strings.Clone("some-value"), strings.Clone("other")
	for _, list := range [][]api.Field{pairs(name, value), pairs(name, value, other, value), pairs(other, value, name, value, name, other)} {
		handed := append(allTexts(list), name, value, other)
		joined, _ := fields.Get(list, name)
		answers := []string{joined}
		answers = append(answers, fields.Values(list, name)...)
		answers = append(answers, fields.Tokens(list, name)...)
		answers = append(answers, allTexts(fields.Without(list))...)
		answers = append(answers, allTexts(fields.Without(list, other))...)
		answers = append(answers, allTexts(fields.Put(list, name, value))...)
		answers = append(answers, allTexts(fields.Put(list, other, name))...)
		apart(t, answers, handed...)
	}
}

func TestParsedFieldsShareNothingWithTheBlock(t *testing.T) {
	block := []byte("Name: value\r\nOther: text\r\nempty:\r\n")
	list, _ := fields.Parse(block)
	apart(t, allTexts(list), unsafe.String(unsafe.SliceData(block), len(block)))
	for i := range block {
		block[i] = 'x'
	}
	if want := pairs("Name", "value", "Other", "text", "empty", ""); !same(list, want) {
		t.Errorf("the fields changed with the block: %q", list)
	}
}

func TestPrintedBytesShareNothingWithTheList(t *testing.T) {
	list := pairs(strings.Clone("Name"), strings.Clone("value"))
	one, _ := fields.Print(list)
	two, _ := fields.Print(list)
	one = one[:cap(one)]
	for i := range one {
		one[i] = 'x'
	}
	if string(two) != "Name: value\r\n" || !same(list, pairs("Name", "value")) {
		t.Errorf("%q and %q changed with what was printed", two, list)
	}
}

// Lists of two answers, with their spare room, share nothing, neither with each other nor with what was handed in.
func TestListsOfTwoAnswersShareNothing(t *testing.T) {
	list, memory := withRoom(pairs("a", "1", "b", "2", "A", "3"), api.Field{Name: "Behind", Value: "It"})
	before := slices.Clone(memory)
	for label, call := range map[string]func() []api.Field{
		"Parse":            func() []api.Field { got, _ := fields.Parse([]byte("a: 1\r\nb: 2\r\nA: 3\r\n")); return got },
		"Without":          func() []api.Field { return fields.Without(list) },
		"Without one":      func() []api.Field { return fields.Without(list, "a") },
		"Put":              func() []api.Field { return fields.Put(list, "c", "4") },
		"Put over another": func() []api.Field { return fields.Put(list, "a", "4") },
	} {
		one, two := call(), call()
		want := slices.Clone(two)
		overwrite(one, api.Field{Name: "x", Value: "x"})
		if !slices.Equal(two, want) || !slices.Equal(memory, before) {
			t.Errorf("%s: a list changed with another one: %q, %q", label, two, memory)
		}
	}
	for label, call := range map[string]func([]api.Field, string) []string{"Values": fields.Values, "Tokens": fields.Tokens} {
		one, two := call(list, "a"), call(list, "a")
		overwrite(one, "x")
		if !same(two, []string{"1", "3"}) || !slices.Equal(memory, before) {
			t.Errorf("%s: a list changed with another one: %q", label, two)
		}
	}
}

// overwrite: fills the list and its spare room.
func overwrite[T any](list []T, with T) {
	list = list[:cap(list)]
	for i := range list {
		list[i] = with
	}
}

// P1 and P2: no call panics, and each answers the same twice.
func TestCallsEndAndAnswerTheSameTwice(t *testing.T) {
	type answer struct {
		parsed, without, put []api.Field
		printed              []byte
		values, tokens       []string
		joined               string
		found                bool
		parseErr, printErr   api.Errno
	}
	ask := func(s string) answer {
		var a answer
		list := pairs(s, s, "a", s, s, "b", "A", "")
		a.parsed, a.parseErr = fields.Parse([]byte(s))
		a.printed, a.printErr = fields.Print(list)
		a.values, a.tokens = fields.Values(list, s), fields.Tokens(list, s)
		a.joined, a.found = fields.Get(list, s)
		a.without, a.put = fields.Without(list, s, "a"), fields.Put(list, s, s)
		return a
	}
	for _, s := range append(everyText(4, "a", ":", " ", "\r\n", "\r", "\"", "\xff", "\x00", ","), everyByte()...) {
		if one, two := ask(s), ask(s); !reflect.DeepEqual(one, two) {
			t.Fatalf("%q: %+v, then %+v", s, one, two)
		}
	}
}
