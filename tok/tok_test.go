package tok_test

import (
	"reflect"
	"regexp"
	"slices"
	"strings"
	"testing"
	"unsafe"

	"conduit/api"
	"conduit/tok"
)

// everyByte: the 256 texts of one byte.
func everyByte() []string {
	var all []string
	for c := range 256 {
		all = append(all, string([]byte{byte(c)}))
	}
	return all
}

// everyText: all texts of at most n bytes out of an alphabet.
func everyText(alphabet string, n int) []string {
	all := []string{""}
	for from := 0; n > 0; n-- {
		to := len(all)
		for _, s := range all[from:to] {
			for i := range len(alphabet) {
				all = append(all, s+alphabet[i:i+1])
			}
		}
		from = to
	}
	return all
}

func same[T any](a, b []T) bool {
	return len(a) == len(b) && (len(a) == 0 || reflect.DeepEqual(a, b))
}

// P1.1

func TestTokenOfEachByte(t *testing.T) {
	const letters = "ABCDEFGHIJKLMNOPQRSTUVWXYZabcdefghijklmnopqrstuvwxyz0123456789!#$%&'*+-.^_|~\x60"
	for _, s := range everyByte() {
		want := strings.Contains(letters, s)
		for _, text := range []string{s, "a" + s, s + "a", "a" + s + "a"} {
			if tok.Token(text) != want {
				t.Errorf("Token(%q) = %t", text, !want)
			}
		}
	}
}

func TestTokenOfLongerTexts(t *testing.T) {
	for s, want := range map[string]bool{
		"":              false,
		"Cache-Control": true,
		"text/html":     false,
		" a":            false,
		"a ":            false,
		"\"a\"":         false,
		"ä":             false,
	} {
		if tok.Token(s) != want {
			t.Errorf("Token(%q) = %t", s, !want)
		}
	}
}

func TestTrim(t *testing.T) {
	for s, want := range map[string]string{
		"":                 "",
		" ":                "",
		"\t \t":            "",
		"a":                "a",
		" \ta b\t ":        "a b",
		"\t\"\t\"":         "\"\t\"",
		"\na\r":            "\na\r",
		" \xa0a\x85 ":      "\xa0a\x85",
		"\u00a0a\u2003":    "\u00a0a\u2003",
		"\x00 a \x1f\x7f ": "\x00 a \x1f\x7f",
	} {
		if got := tok.Trim(s); got != want {
			t.Errorf("Trim(%q) = %q", s, got)
		}
	}
}

func TestTrimTakesTwoBytesAlone(t *testing.T) {
	for _, s := range everyByte() {
		want := s
		if s == " " || s == "\t" {
			want = ""
		}
		if got := tok.Trim(s); got != want {
			t.Errorf("Trim(%q) = %q", s, got)
		}
	}
}

func TestFoldOfEachByte(t *testing.T) {
	const great, small = "ABCDEFGHIJKLMNOPQRSTUVWXYZ", "abcdefghijklmnopqrstuvwxyz"
	for _, s := range everyByte() {
		want := s
		if i := strings.Index(great, s); i >= 0 {
			want = small[i : i+1]
		}
		if got := tok.Fold(s); got != want {
			t.Errorf("Fold(%q) = %q", s, got)
		}
	}
}

func TestFoldOfLongerTexts(t *testing.T) {
	for s, want := range map[string]string{
		"":                   "",
		"Cache-Control":      "cache-control",
		"@AZ[\x60az{":        "@az[\x60az{",
		"Ä\xc4K\u212a":       "Ä\xc4k\u212a",
		"\"QUOTED\\A\" , A ": "\"quoted\\a\" , a ",
	} {
		if got := tok.Fold(s); got != want {
			t.Errorf("Fold(%q) = %q", s, got)
		}
	}
}

// P1.2 and P1.3

func TestList(t *testing.T) {
	for _, c := range []struct {
		s    string
		want []string
	}{
		{"", nil},
		{" \t", nil},
		{",", nil},
		{" ,\t,, ", nil},
		{"a", []string{"a"}},
		{",a,", []string{"a"}},
		{"a, \"b,c\" ,,d", []string{"a", "\"b,c\"", "d"}},
		{"a b,\tc\td ", []string{"a b", "c\td"}},
		{"a;b,c=d", []string{"a;b", "c=d"}},
		{"\"\",\"\"", []string{"\"\"", "\"\""}},
		{"\xff,\x00,\x80", []string{"\xff", "\x00", "\x80"}},
	} {
		if got := tok.List(c.s); !same(got, c.want) {
			t.Errorf("List(%q) = %q", c.s, got)
		}
	}
}

func TestListCutsOutsideOfQuotedStretchesAlone(t *testing.T) {
	for _, c := range []struct {
		s    string
		want []string
	}{
		{`a"x,"y,b`, []string{`a"x,"y`, "b"}},                         // a stretch within a piece
		{`"a,b`, []string{`"a,b`}},                                    // one that doesn't end
		{`a,"`, []string{"a", `"`}},                                   // one that begins at the end
		{`"a" , "b`, []string{`"a"`, `"b`}},                           // the second one doesn't end
		{`"a\",b",c`, []string{`"a\",b"`, "c"}},                       // an escaped quote
		{`"a\\",b",c`, []string{`"a\\"`, `b",c`}},                     // an escaped escape
		{`"a\,b",c`, []string{`"a\,b"`, "c"}},                         // an escaped comma
		{`\"a,b",c`, []string{`\"a,b"`, "c"}},                         // outside, an escape means nothing
		{`\,a`, []string{`\`, "a"}},                                   // nor ahead of a comma
		{`a,\`, []string{"a", `\`}},                                   // nor at the end
		{`a,"b\`, []string{"a", `"b\`}},                               // within, at the end
		{"\"a\\\x00,\\\xff\",b", []string{"\"a\\\x00,\\\xff\"", "b"}}, // whatever is escaped
		{`"a, `, []string{`"a,`}},                                     // blanks go at the end all the same
	} {
		if got := tok.List(c.s); !same(got, c.want) {
			t.Errorf("List(%q) = %q", c.s, got)
		}
	}
}

var (
	commaPiece     = regexp.MustCompile(`^(?s:[^",]|"(?:[^"\\]|\\.)*(?:"|\\?$))*`)
	semicolonPiece = regexp.MustCompile(`^(?s:[^";]|"(?:[^"\\]|\\.)*(?:"|\\?$))*`)
	quotedForm     = regexp.MustCompile(`^"(?s:[^"\\\x00-\x08\x0a-\x1f\x7f]|\\[^\x00-\x08\x0a-\x1f\x7f])*"$`)
	quotedPair     = regexp.MustCompile(`(?s:\\(.))`)
	nameValue      = regexp.MustCompile(`^([A-Za-z]+)=(?:([A-Za-z]+)|(".*))$`)
)

// cutByPattern: P1.2 once more, in the words of a regular expression.
func cutByPattern(s string, piece *regexp.Regexp) []string {
	var all []string
	for {
		n := len(piece.FindString(s))
		all = append(all, strings.Trim(s[:n], " \t"))
		if n == len(s) {
			return all
		}
		s = s[n+1:]
	}
}

func TestListOfAllShortTexts(t *testing.T) {
	for _, s := range everyText("a\"\\, \xff", 6) {
		want := slices.DeleteFunc(cutByPattern(s, commaPiece), func(p string) bool { return p == "" })
		if got := tok.List(s); !same(got, want) {
			t.Fatalf("List(%q) = %q, not %q", s, got, want)
		}
	}
}

// P1.4

func TestQuoteOfEachByte(t *testing.T) {
	for c, s := range everyByte() {
		want, errno := "\""+s+"\"", api.OK
		switch {
		case c == 34 || c == 92:
			want = "\"\\" + s + "\""
		case c < 32 && c != 9, c == 127:
			want, errno = "", api.ErrQuote
		}
		if got, e := tok.Quote(s); got != want || e != errno {
			t.Errorf("Quote(%q) = %q, %d", s, got, e)
		}
	}
}

func TestQuote(t *testing.T) {
	for s, want := range map[string]string{
		"":              `""`,
		"a b":           `"a b"`,
		`a"b\c`:         `"a\"b\\c"`,
		`\"`:            `"\\\""`,
		`a\`:            `"a\\"`,
		"\t\x80\xff, ;": "\"\t\x80\xff, ;\"",
	} {
		if got, e := tok.Quote(s); got != want || e != api.OK {
			t.Errorf("Quote(%q) = %q, %d", s, got, e)
		}
	}
	for _, s := range []string{"abc\x00", "\x1fabc", "a\x7fb", "\"\\\n"} {
		if got, e := tok.Quote(s); got != "" || e != api.ErrQuote {
			t.Errorf("Quote(%q) = %q, %d", s, got, e)
		}
	}
}

// P1.5

func TestUnquoteOfEachByte(t *testing.T) {
	for c, s := range everyByte() {
		text := c == 9 || c >= 32 && c != 127
		if c != 92 { // an escape makes a pair with the byte behind it: see the next form
			checkUnquote(t, "\"a"+s+"b\"", text && c != 34, "a"+s+"b")
		}
		checkUnquote(t, "\"a\\"+s+"b\"", text, "a"+s+"b")
	}
}

func checkUnquote(t *testing.T, form string, good bool, want string) {
	t.Helper()
	errno := api.OK
	if !good {
		want, errno = "", api.ErrQuote
	}
	if got, e := tok.Unquote(form); got != want || e != errno {
		t.Errorf("Unquote(%q) = %q, %d", form, got, e)
	}
}

func TestUnquote(t *testing.T) {
	for s, want := range map[string]string{
		`""`:                    "",
		`"a"`:                   "a",
		`"a\"b"`:                `a"b`,
		`"\\"`:                  `\`,
		`"\a\,"`:                "a,",
		"\" \t\x80\xff;,= \"":   " \t\x80\xff;,= ",
		"\"\\\t\\ \\\x80\\xz\"": "\t \x80xz",
	} {
		if got, e := tok.Unquote(s); got != want || e != api.OK {
			t.Errorf("Unquote(%q) = %q, %d", s, got, e)
		}
	}
}

func TestUnquoteOfWhatIsNoQuotedForm(t *testing.T) {
	for _, s := range []string{
		"", `"`, "a", "ab", `"a`, `a"`, ` "a"`, `"a" `, `"a"b"`, `"""`, `""""`, `"\"`, `"a\"`, `"a\`, `"\\\"`, `'a'`,
		"\"\x00\"", "\"\x1f\"", "\"\x7f\"", "\"\\\x01\"", "\"\\\x7f\"", "\"a\n\"",
	} {
		if got, e := tok.Unquote(s); got != "" || e != api.ErrQuote {
			t.Errorf("Unquote(%q) = %q, %d", s, got, e)
		}
	}
}

func TestUnquoteUndoesQuote(t *testing.T) {
	for _, s := range everyText("a\"\\, \t\x80\xff", 4) {
		q, e := tok.Quote(s)
		if e != api.OK {
			t.Fatalf("Quote(%q): %d", s, e)
		}
		if got, e := tok.Unquote(q); got != s || e != api.OK {
			t.Fatalf("Unquote(%q) = %q, %d", q, got, e)
		}
	}
}

// unquoteByPattern: P1.5 once more, in the words of a regular expression.
func unquoteByPattern(s string) (string, api.Errno) {
	if !quotedForm.MatchString(s) {
		return "", api.ErrQuote
	}
	return quotedPair.ReplaceAllString(s[1:len(s)-1], "$1"), api.OK
}

func TestUnquoteOfAllShortTexts(t *testing.T) {
	for _, s := range everyText("a\"\\\t\x1f", 6) {
		want, errno := unquoteByPattern(s)
		if got, e := tok.Unquote(s); got != want || e != errno {
			t.Fatalf("Unquote(%q) = %q, %d, not %q, %d", s, got, e, want, errno)
		}
	}
}

// P1.6

func TestParams(t *testing.T) {
	for _, c := range []struct {
		s, first string
		want     []api.Param
	}{
		{"", "", nil},
		{" \t ", "", nil},
		{";", "", nil},
		{" a b ", "a b", nil},
		{"a;; \t;", "a", nil},
		{";a=b", "", []api.Param{{Name: "a", Value: "b"}}},
		{"text/html; q=0.5;Name=\"x;y\"", "text/html", []api.Param{{Name: "q", Value: "0.5"}, {Name: "name", Value: "x;y"}}},
		{"a;B=C;b=d;B=C", "a", []api.Param{{Name: "b", Value: "C"}, {Name: "b", Value: "d"}, {Name: "b", Value: "C"}}},
		{"a;\tb=c\t;", "a", []api.Param{{Name: "b", Value: "c"}}},
		{"a;b=\"\"", "a", []api.Param{{Name: "b"}}},
		{"a;b=\"=;\\\"\\\\\" ;c=d", "a", []api.Param{{Name: "b", Value: "=;\"\\"}, {Name: "c", Value: "d"}}},
		{"\"a;b\"c;d=e", "\"a;b\"c", []api.Param{{Name: "d", Value: "e"}}},
		{"a=b,\x00\xff;c=d", "a=b,\x00\xff", []api.Param{{Name: "c", Value: "d"}}},
		{"\"a;b", "\"a;b", nil},
		{"\"a\\", "\"a\\", nil},
	} {
		first, list, e := tok.Params(c.s)
		if first != c.first || !same(list, c.want) || e != api.OK {
			t.Errorf("Params(%q) = %q, %q, %d", c.s, first, list, e)
		}
	}
}

func TestParamsOfWhatIsNoParameter(t *testing.T) {
	for _, s := range []string{
		"a;b", "a;=", "a;=b", "a;b=", "a;b =c", "a;b= c", "a;b = c", "a;b=c d", "a;b c=d", "a;b=c=d", "a;b=c,d",
		"a;b=\"c", "a;b=\"c\\", "a;b=\"c\\\"", "a;b=\"c\"d", "a;b=c\"d\"", "a;\"b\"=c", "a;b=\"c\" \"d\"", "a;b=\"\x7f\"",
		"a;b=\xff", "a;\x80=b", "a;b=c;d", "a;d;b=c", ";;x",
	} {
		if first, list, e := tok.Params(s); first != "" || len(list) != 0 || e != api.ErrParam {
			t.Errorf("Params(%q) = %q, %q, %d", s, first, list, e)
		}
	}
}

// paramsByPattern: P1.6 once more, in the words of a regular expression.
func paramsByPattern(s string) (string, []api.Param, api.Errno) {
	all := cutByPattern(s, semicolonPiece)
	var list []api.Param
	for _, p := range all[1:] {
		if p == "" {
			continue
		}
		parts := nameValue.FindStringSubmatch(p)
		if parts == nil {
			return "", nil, api.ErrParam
		}
		value := parts[2]
		if value == "" {
			text, e := unquoteByPattern(parts[3])
			if e != api.OK {
				return "", nil, api.ErrParam
			}
			value = text
		}
		list = append(list, api.Param{Name: strings.ToLower(parts[1]), Value: value})
	}
	return all[0], list, api.OK
}

func TestParamsOfAllShortTexts(t *testing.T) {
	for _, s := range everyText("A\"\\;= ", 6) {
		s = "v;" + s
		first, list, errno := paramsByPattern(s)
		gotFirst, gotList, e := tok.Params(s)
		if gotFirst != first || !same(gotList, list) || e != errno {
			t.Fatalf("Params(%q) = %q, %q, %d, not %q, %q, %d", s, gotFirst, gotList, e, first, list, errno)
		}
	}
}

// P1.7

func within(part, whole string) bool {
	if part == "" {
		return false
	}
	p, w := uintptr(unsafe.Pointer(unsafe.StringData(part))), uintptr(unsafe.Pointer(unsafe.StringData(whole)))
	return p >= w && p < w+uintptr(len(whole))
}

func TestAnswersAreNewMemory(t *testing.T) {
	s := strings.Clone("first, ;name=value;other=\"text\"")
	quoted := strings.Clone("\"text\"")
	first, list, _ := tok.Params(s)
	text, _ := tok.Unquote(quoted)
	form, _ := tok.Quote(s[:5])
	answers := []string{first, text, form, tok.Trim(s), tok.Trim(s[:5]), tok.Fold(s), tok.Fold(s[:5])}
	answers = append(answers, tok.List(s)...)
	for _, p := range list {
		answers = append(answers, p.Name, p.Value)
	}
	for _, a := range answers {
		if within(a, s) || within(a, quoted) {
			t.Errorf("%q lies in the memory of what was handed in", a)
		}
	}
}

func TestListsOfTwoAnswersShareNothing(t *testing.T) {
	one, two := tok.List("a,b,c"), tok.List("a,b,c")
	clear(one[:cap(one)])
	if !same(two, []string{"a", "b", "c"}) {
		t.Errorf("a list changed with another one: %q", two)
	}
	_, first, _ := tok.Params("v;a=b;c=d")
	_, second, _ := tok.Params("v;a=b;c=d")
	clear(first[:cap(first)])
	if !same(second, []api.Param{{Name: "a", Value: "b"}, {Name: "c", Value: "d"}}) {
		t.Errorf("a list changed with another one: %q", second)
	}
}

// P1 and P2: no call panics, and each answers the same twice.
func TestCallsEndAndAnswerTheSameTwice(t *testing.T) {
	type answer struct {
		token                     bool
		trim, fold, quote, first  string
		text                      string
		quoteErr, textErr, params api.Errno
		list                      []string
		pairs                     []api.Param
	}
	ask := func(s string) answer {
		var a answer
		a.token, a.trim, a.fold, a.list = tok.Token(s), tok.Trim(s), tok.Fold(s), tok.List(s)
		a.quote, a.quoteErr = tok.Quote(s)
		a.text, a.textErr = tok.Unquote(s)
		a.first, a.pairs, a.params = tok.Params(s)
		return a
	}
	texts := everyText("a\"\\,;=\t\x00\x7f\xff", 4)
	for _, part := range []string{"\"", "\\", ",", ";", "\"\\", ";a=\"", "\x00", ";a=b"} {
		texts = append(texts, strings.Repeat(part, 20_000))
	}
	for _, s := range texts {
		if one, two := ask(s), ask(s); !reflect.DeepEqual(one, two) {
			t.Fatalf("two answers at %q: %v, %v", s, one, two)
		}
	}
}
